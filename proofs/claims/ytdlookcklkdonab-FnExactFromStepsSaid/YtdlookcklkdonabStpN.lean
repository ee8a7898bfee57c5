/- Contracts of marks: of a row of steps (where they write), of a block (what they leave). -/
import Derived.Test.YtdlookcklkdonabStpC
import Derived.Test.YtdlookcklkdonabStpM
namespace Go.Proofs.Ytdlookcklkdonab
open Go.RowKit
set_option linter.unusedVariables false

/-- A row of steps whose numbers may be whatever. -/
def RowN (B m : Nat) (w : World) (g n : Nat) (ys : Nat → Value) (ns : Nat → Nat) : Prop :=
  ∃ arr, Arr w g arr 67 ∧ ∀ j, j < n → (∃ d : Int, arr[j * 3]? = some (.int .i64 d)) ∧ (∃ d : Int, arr[j * 3 + 1]? = some (.int .i64 d)) ∧ arr[j * 3 + 2]? = some (ys j) ∧ IntB B m w (ys j) (ns j)
theorem RowN.soft {B m : Nat} {w w' : World} {g n : Nat} {ys : Nat → Value} {ns : Nat → Nat} (h : RowN B m w g n ys ns) (hs : Soft B m w w') : RowN B m w' g n ys ns := by
  obtain ⟨arr, h1, h2⟩ := h
  refine ⟨arr, hs.2.2 g arr 67 (by decide) h1, fun j hj => ?_⟩
  obtain ⟨k1, k2, k3, k4⟩ := h2 j hj
  exact ⟨k1, k2, k3, k4.soft hs⟩
theorem RowN.set {B m : Nat} {w : World} {g n k : Nat} {ys : Nat → Value} {ns : Nat → Nat} (h : RowN B m w g n ys ns) (i : Nat) (hi : i = k * 3 ∨ i = k * 3 + 1) (x : Int) : RowN B m (w.setCell ⟨g, i, none⟩ (.int .i64 x)) g n ys ns := by
  obtain ⟨arr, h1, h2⟩ := h
  refine ⟨_, h1.set i _, fun j hj => ?_⟩
  obtain ⟨⟨d, k1⟩, ⟨e, k2⟩, k3, k4⟩ := h2 j hj
  have hone : ∀ (q : Nat) (d : Int), arr[q]? = some (.int .i64 d) → ∃ d' : Int, (arr.setIfInBounds i (.int .i64 x))[q]? = some (.int .i64 d') := fun q d hd => by
    by_cases e : i = q
    · subst e
      exact ⟨x, by rw [Array.getElem?_setIfInBounds_self_of_lt (Array.getElem?_eq_some_iff.1 hd).1]⟩
    · exact ⟨d, by rw [Array.getElem?_setIfInBounds_ne e]; exact hd⟩
  refine ⟨hone _ d k1, hone _ e k2, ?_, ?_⟩
  · rw [Array.getElem?_setIfInBounds_ne (by omega)]
    exact k3
  · rcases k4 with k4 | ⟨b, cap, cur, q1, q2, q3, q4, q5⟩
    · exact .inl k4
    · have e : b ≠ g := fun e => by
        subst e
        unfold Arr at h1 q4
        rw [h1] at q4
        cases q4
      exact .inr ⟨b, cap, cur, q1, q2, q3, q4.other e _, q5⟩
theorem RowN.below {B m : Nat} {w w' : World} {g n : Nat} {ys : Nat → Value} {ns : Nat → Nat} (h : RowN B m w g n ys ns) (hb : Below w.heap.size w w') : RowN B m w' g n ys ns := by
  obtain ⟨arr, h1, h2⟩ := h
  refine ⟨arr, h1.below hb h1.lt, fun j hj => ?_⟩
  obtain ⟨k1, k2, k3, k4⟩ := h2 j hj
  refine ⟨k1, k2, k3, ?_⟩
  rcases k4 with k4 | ⟨b, cap, cur, q1, q2, q3, q4, q5⟩
  · exact .inl k4
  · exact .inr ⟨b, cap, cur, q1, q2, q3, q4.below hb q4.lt, q5⟩
theorem SSTo.rowN {w : World} {g : Nat} {L : List (Int × Int × List Int)} {n : Nat} (h : SSTo w g L n n) : ∃ ys, RowN g w.heap.size w g n ys (fun j => (nthS L j).2.2.length) := by
  obtain ⟨arr, h1, h2, h3⟩ := h
  refine ⟨fun j => (arr[j * 3 + 2]?).getD (.bool false), arr, h1, fun j hj => ?_⟩
  obtain ⟨e0, e1, y, e2, e3⟩ := h3 j hj
  refine ⟨⟨_, e0⟩, ⟨_, e1⟩, by simp [e2], ?_⟩
  have : (arr[j * 3 + 2]?).getD (.bool false) = y := by simp [e2]
  show IntB g w.heap.size w ((arr[j * 3 + 2]?).getD (.bool false)) (nthS L j).2.2.length
  rw [this]
  exact e3.intB (by omega) (fun a k c h => by subst h; exact e3.ge.2)

set_option maxRecDepth 100000 in
set_option maxHeartbeats 1600000 in
theorem markRowN (B m : Nat) (g n : Nat) (ys : Nat → Value) (ns : Nat → Nat) (w : World) (hn : n ≤ 1048576) (hns : ∀ j, j < n → ns j ≤ 1048576) (hB : B ≤ g) (hm : g < m) (hv : RowN B m w g n ys ns) :
    Calls Try.prog 26 #[.slice (some ⟨g, 0, none⟩) n n, .int .i64 1] w fun e w' => (∃ r : Int, e = .returned (.int .i64 r) ∧ 0 ≤ r) ∧ Spare B m w w' := by
  have HV := hid hv
  have HNS := hid hns
  clear hv hns
  go_enter Try.func26, Try.ntmps26
  go_wp2
  go_loopw [1, 5] (fun r i wr => ∃ (k : Nat) (q : Int), k ≤ n ∧ i = .int .i64 k ∧ r = .int .i64 q ∧ (1 ≤ q ∧ q ≤ 1 + 1048578 * (k : Int)) ∧ Hid (RowN B m wr g n ys ns) ∧ Hid (Spare B m w wr)) (fun _ i _ => n - (intOf i).toNat)
  case atStart => exact ⟨0, 1, by omega, rfl, rfl, by simp, HV.out, Spare.refl _ _ _⟩
  case round =>
    obtain ⟨k, q, hk, rfl, rfl, ⟨hq0, hq1⟩, hrow, hsp⟩ := hrel
    by_cases hlt : k < n
    · have hlt' : (k : Int) < (n : Int) := by omega
      obtain ⟨arr, har, hcells⟩ := hrow.out
      obtain ⟨⟨d, k1⟩, ⟨e, k2⟩, k3, k4⟩ := hcells k hlt
      have p0 : wr.cell? ⟨g, k * 3, none⟩ = some (.int .i64 d) := (har.cell _).trans k1
      have z0 := har.free (k * 3)
      have HR1 := hid (hrow.out.set (k := k) (k * 3) (.inl rfl) q)
      have HS1 := hid (Spare.ofOnly (B := B) (m := m) ((Only.refl g wr).setCell (k * 3) (.int .i64 q)) hB hm)
      have hnk := HNS.out k hlt
      obtain ⟨arr1, har1, hcells1⟩ := HR1.out
      obtain ⟨_, ⟨e', m1⟩, m2, m3⟩ := hcells1 k hlt
      have p1 : (wr.setCell ⟨g, k * 3, none⟩ (.int .i64 q)).cell? ⟨g, k * 3 + 1, none⟩ = some (.int .i64 e') := (har1.cell _).trans m1
      have z1 := har1.free (k * 3 + 1)
      have HR2 := hid (HR1.out.set (k := k) (k * 3 + 1) (.inr rfl) (q + 1))
      have HS2 := hid (Spare.ofOnly (B := B) (m := m) ((Only.refl g (wr.setCell ⟨g, k * 3, none⟩ (.int .i64 q))).setCell (k * 3 + 1) (.int .i64 (q + 1))) hB hm)
      obtain ⟨arr2, har2, hcells2⟩ := HR2.out
      obtain ⟨_, _, s2, s3⟩ := hcells2 k hlt
      have p2 : ((wr.setCell ⟨g, k * 3, none⟩ (.int .i64 q)).setCell ⟨g, k * 3 + 1, none⟩ (.int .i64 (q + 1))).cell? ⟨g, k * 3 + 2, none⟩ = some (ys k) := (har2.cell _).trans s2
      have HM := hid (mark_ints B m (ys k) (ns k) (q + 1 + 1) _ hnk (by omega) (by omega) s3)
      obtain ⟨yo, yc, hy⟩ := s3.shape
      rw [hy] at p2 HM
      clear har hcells k1 k2 k3 k4 har1 hcells1 m1 m2 m3 har2 hcells2 s2 s3 hy
      generalize ns k = N at *
      have HW := hid (show Spare B m w ((wr.setCell ⟨g, k * 3, none⟩ (.int .i64 q)).setCell ⟨g, k * 3 + 1, none⟩ (.int .i64 (q + 1))) from (hsp.out.trans HS1.out).trans HS2.out)
      go_wp2_with fail
      refine HM.out.mono ?_
      rintro e w2 ⟨rfl, hsoft⟩
      have HR3 := hid (HR2.out.soft hsoft)
      have HS3 := hid (HW.out.trans hsoft.1)
      clear hsoft
      go_wp2_with fail
      go_roundw
      case rel => exact ⟨k + 1, q + 1 + 1 + N, by omega, by go_num, rfl, by omega, HR3.out, HS3.out⟩
      case measure => simp [intOf]; omega
    · obtain rfl : k = n := by omega
      go_wp2
      go_ret
      exact ⟨⟨_, rfl, by omega⟩, hsp.out⟩

set_option maxHeartbeats 800000 in
/-- The marks of a block, and what they leave. -/
theorem markBlock2 (base : Nat) (d : Int) (va : Value) (xs : List Int) (w : World) (h0 : xs.length ≤ 1048576) (hv : Own w base 3 .i64 va xs) :
    Calls Try.prog 25 #[.agg #[.int .i64 d, va], .int .i64 1] w fun e w' => e = .returned (.int .i64 (1 + (xs.length : Int))) ∧ Own w' base 3 .i64 va (mks 1 xs.length) ∧ (∀ m, va.ownBlock ≠ some m → m < w.heap.size → w'.heap[m]? = w.heap[m]?) ∧ Below base w w' := by
  obtain ⟨ao, ac, rfl⟩ := hv.shape
  have hb := hv.1
  have HB0 := hid ((Below.refl w.heap.size w).alloc (Nat.le_refl _) (.cells #[.int .i64 d, .slice ao xs.length ac] 37))
  have HM := hid (mark_s base _ xs 1 _ (by omega) (by decide) (by decide) (hv.below HB0.out))
  have HBK := hid (fun m e => (hv.2.lt m e).1)
  clear hv
  go_enter Try.func25, Try.ntmps25
  go_wp2_with fail
  refine HM.out.mono ?_
  generalize w.alloc (.cells #[.int .i64 d, .slice ao xs.length ac] 37) = wa at *
  rintro e w1 ⟨rfl, ho, ht⟩
  have HO1 := hid ho
  have HB1 := hid ((HB0.out.mono hb).trans (ht.below HBK.out))
  have HQ := hid (fun m (h1 : (Value.slice ao xs.length ac).ownBlock ≠ some m) (h2 : m < w.heap.size) => (ht.2.2.2.2 m h1).trans (HB0.out.block m h2))
  clear ht ho
  go_wp2
  go_ret
  exact ⟨rfl, HO1.out, HQ.out, HB1.out⟩

set_option maxHeartbeats 800000 in
theorem heldBlock (d : Int) (v : Value) (n : Nat) (w : World) (hn : n ≤ 1048576) (hv : ∃ ao c, v = .slice ao n c ∧ View .i64 w ao n (mks 1 n)) :
    Calls Try.prog 32 #[.agg #[.int .i64 d, v], .int .i64 1] w fun e w' => e = .returned (.int .i64 (1 + (n : Int))) ∧ Below w.heap.size w w' := by
  obtain ⟨ao, ac, rfl, hvw⟩ := hv
  have HB0 := hid ((Below.refl w.heap.size w).alloc (Nat.le_refl _) (.cells #[.int .i64 d, .slice ao n ac] 37))
  have HM := hid (held_s ao n ac 1 _ (by omega) (by decide) (by decide) (hvw.below (Nat.le_refl _) HB0.out))
  clear hvw
  have hpos : ¬ (1 + (n : Int) < 0) := by omega
  go_enter Try.func32, Try.ntmps32
  go_wp2_with fail
  refine HM.out.mono ?_
  generalize w.alloc (.cells #[.int .i64 d, .slice ao n ac] 37) = wa at *
  rintro e w1 ⟨rfl, rfl⟩
  go_wp2
  go_ret
  exact ⟨rfl, HB0.out⟩
end Go.Proofs.Ytdlookcklkdonab
