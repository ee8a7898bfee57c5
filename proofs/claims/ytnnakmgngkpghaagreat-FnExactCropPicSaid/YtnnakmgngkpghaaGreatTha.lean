/- What ThinPic answers, of both sides, in one word. -/
import Derived.Test.YtnnakmgngkpghaaGreatLth
import Derived.Test.YtnnakmgngkpghaaGreatMkz
namespace Go.Proofs.YtnnakmgngkpghaaGreat
open Go.RowKit Go.Maps
set_option linter.unusedVariables false

/-- The empty picture. -/
def zPk : Pk := ⟨0, 0, ⟨[], [], [], []⟩, ⟨#[]⟩, []⟩
theorem zPO (w : World) (base : Nat) (hb : base ≤ w.heap.size) : PO base w zPic zPk :=
  ⟨_, _, _, _, _, [], w.heap.size, rfl, hb, ⟨_, _, _, _, w.heap.size, w.heap.size, w.heap.size, rfl, Nat.le_refl _, Nat.le_refl _, Nat.le_refl _, Own.nil w 3 .i64 _ (Nat.le_refl _), Own.nil w 3 .i64 _ (Nat.le_refl _), Own.nil w 3 .i64 _ (Nat.le_refl _), Own.nil w 3 .i64 _ (Nat.le_refl _), fun a n c h => (by cases h), fun a n c h => (by cases h), fun a n c h => (by cases h)⟩,
    ⟨hb, rfl, ⟨rfl, .inl ⟨rfl, rfl⟩⟩, fun j hj => absurd hj (Nat.not_lt_zero j), fun i j _ hj => absurd hj (Nat.not_lt_zero j)⟩, fun a n c h => (by cases h), fun j hj => absurd hj (Nat.not_lt_zero j)⟩
theorem thP_fits (p : Pk) (k : Nat) (hf : p.Fits) (h63 : ∀ j, j < p.L.length → (nth p.L j).2.length = 63) (hk : k ≤ 63) : (thP k p).Fits :=
  ⟨Nat.zero_le _, Nat.zero_le _, Nat.zero_le _, Nat.zero_le _, hf.hN, by rw [show (thP k p).L = thL k p.L from rfl, thL_len]; exact hf.hn, fun j hj => by
    rw [show (thP k p).L = thL k p.L from rfl] at hj ⊢
    rw [thL_len] at hj
    rw [thL_nth _ _ _ hj]
    show (thR k (nth p.L j).2).length ≤ 1048576
    rw [thR_len _ _ (h63 j hj) hk]
    decide⟩
def ansB (x : Int) (p : Pk) : Bool := okB p && (decide (0 ≤ x ∧ x ≤ 63) && okB (plI (thP x.toNat p)))
def ansP (x : Int) (p : Pk) : Pk := if ansB x p = true then plI (thP x.toNat p) else zPk
theorem impl_ans (v : Value) (p : Pk) (vs0 : List Value) (x : Int) (w : World) (hf : p.Fits) (hv : PVq w v p vs0) (hcp : Cap p.L vs0) (hpv : PV w v p) :
    Calls Tryz.prog 16 #[v, .int .i64 x] w fun e w' => ∃ v', e = .returned (.tuple #[v', .bool (ansB x p)]) ∧ PO w.heap.size w' v' (ansP x p) ∧ Below w.heap.size w w' := by
  refine (impl_thin v p vs0 x w hf hv hcp (okB p) (okB (plI (thP x.toNat p))) (fun q v => impl_okB p hf q v) (fun h => okB_rows h) hpv (fun h hx q v => impl_okB _ (plI_fits _ (thP_fits p _ hf (okB_rows h) (by omega))) q v) (fun h => by rw [← plI_L]; exact okB_freq h)).mono ?_
  rintro e w' ⟨v', rfl, h1, h2, hb⟩
  refine ⟨v', rfl, ?_, hb⟩
  unfold ansP
  cases h : ansB x p with
  | true => exact h1 h
  | false =>
    rw [h2 h]
    exact zPO _ _ hb.size
theorem spec_ans (v : Value) (p : Pk) (vs0 : List Value) (x : Int) (w : World) (hf : p.Fits) (hv : PVq w v p vs0) (hcp : Cap p.L vs0) (hpv : PV w v p) :
    Calls Tryz.prog 15 #[v, .int .i64 x] w fun e w' => ∃ v', e = .returned (.tuple #[v', .bool (ansB x p)]) ∧ PQ w.heap.size w' v' (ansP x p) ∧ Below w.heap.size w w' := by
  have hpl := okB_pl (thP x.toNat p) rfl
  refine (spec_thin v p vs0 x w hf hv hcp (okB p) (okB (plI (thP x.toNat p))) (fun q v => spec_okB p hf q v) (fun h => okB_rows h) hpv (fun h hx q v hq => by rw [← hpl.1]; exact spec_okB _ (plS_fits _ (thP_fits p _ hf (okB_rows h) (by omega))) q v hq)).mono ?_
  rintro e w' ⟨v', rfl, h1, h2, hb⟩
  refine ⟨v', rfl, ?_, hb⟩
  unfold ansP
  cases h : ansB x p with
  | true =>
    have h3 := h1 h
    unfold ansB at h
    rw [Bool.and_eq_true, Bool.and_eq_true] at h
    rw [hpl.2 h.2.2] at h3
    exact h3
  | false =>
    rw [h2 h]
    exact (zPO _ _ hb.size).pq
theorem ok_len {p : Pk} (h : okB p = true) : p.L.length ≤ 1600 := (okB_scan h).2.1
theorem zPk_fits : zPk.Fits := ⟨Nat.zero_le _, Nat.zero_le _, Nat.zero_le _, Nat.zero_le _, Nat.zero_le _, Nat.zero_le _, fun j hj => absurd hj (Nat.not_lt_zero j)⟩
theorem row_mem {L : List (Int × List Int)} (h : ∀ j, j < L.length → (nth L j).2.length = 63) (s : Int × List Int) (hs : s ∈ L) : s.2.length ≤ 63 := by
  obtain ⟨j, hj, e⟩ := List.getElem_of_mem hs
  have := h j hj
  have hn : nth L j = s := by simp [nth, List.getD, hj, e]
  rw [hn] at this
  omega
/-- What is so of the answer's sizes. -/
structure Pk.Small (p : Pk) : Prop where
  fits : p.Fits
  len : p.L.length ≤ 1600
  rows : ∀ s ∈ p.L, s.2.length ≤ 63
theorem ok_small {p : Pk} (hf : p.Fits) (h : okB p = true) : p.Small := ⟨hf, ok_len h, row_mem (okB_rows h)⟩
theorem zPk_small : zPk.Small := ⟨zPk_fits, Nat.zero_le _, fun s hs => by cases hs⟩
theorem ansP_small (x : Int) (p : Pk) (hf : p.Fits) : (ansP x p).Small := by
  unfold ansP
  cases h : ansB x p with
  | false => exact zPk_small
  | true =>
    unfold ansB at h
    rw [Bool.and_eq_true, Bool.and_eq_true, decide_eq_true_eq] at h
    exact ok_small (plI_fits _ (thP_fits p _ hf (okB_rows h.1) (by omega))) h.2.2
theorem PW.pvq {w w' : World} {v : Value} {p : Pk} (h : PW w w' v p) : ∃ vs, PVq w' v p vs ∧ Cap p.L vs := by
  obtain ⟨x0, d0, x1, d1, x2, d2, x3, d3, g, rfl, ho, hb, _⟩ := h
  obtain ⟨z0, e0, z1, e1, z2, e2, z3, e3, hze, o0, o1, o2, o3⟩ := ho
  injection hze with hze
  injection hze with hze
  injection hze with hz0 hze
  injection hze with hz1 hze
  injection hze with hz2 hze
  injection hze with hz3 hze
  rw [← hz0] at o0
  rw [← hz1] at o1
  rw [← hz2] at o2
  rw [← hz3] at o3
  obtain ⟨vs, h1, h2, _⟩ := hb.blv
  exact ⟨vs, ⟨_, _, _, _, _, rfl, o0.vp, o1.vp, o2.vp, o3.vp, h1⟩, h2⟩
end Go.Proofs.YtnnakmgngkpghaaGreat
