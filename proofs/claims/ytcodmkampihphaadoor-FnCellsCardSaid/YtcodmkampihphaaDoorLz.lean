/- The walk of the law FnCells, as far as its first statement whose order is open. -/
import Derived.Test.YtcodmkampihphaaDoorFr
namespace Go.Proofs.YtcodmkampihphaaDoor
open Go.RowKit
set_option linter.unusedVariables false

theorem wanted_if {c : Bool} {A B : Prop} (hc : c = true) (h : A) : if c = true then A else B := by rw [if_pos hc]; exact h
theorem brow3 (w : World) (d : Int) (xs : List Int) (h63 : xs.length = 63) (a1 a2 a3 : Option Addr) (c1 c2 c3 : Nat) (h1 : View .i64 w a1 63 xs) (h2 : View .i64 w a2 63 xs) (h3 : View .i64 w a3 63 xs) :
    BRow (w.alloc (.cells #[.int .i64 d, .slice a1 63 c1, .int .i64 d, .slice a2 63 c2, .int .i64 d, .slice a3 63 c3] 28)) (some ⟨w.heap.size, 0, none⟩) [(d, xs), (d, xs), (d, xs)] := by
  have hb := Blk.new w [.int .i64 d, .slice a1 63 c1, .int .i64 d, .slice a2 63 c2, .int .i64 d, .slice a3 63 c3] 28
  have hB : Below w.heap.size w (w.alloc (.cells #[.int .i64 d, .slice a1 63 c1, .int .i64 d, .slice a2 63 c2, .int .i64 d, .slice a3 63 c3] 28)) := (Below.refl _ _).alloc (Nat.le_refl _) _
  intro j hj
  have hj3 : j < 3 := hj
  obtain rfl | rfl | rfl : j = 0 ∨ j = 1 ∨ j = 2 := by omega
  · exact ⟨_, _, a1, c1, rfl, hb.cell rfl, by show _ = some (Value.slice a1 xs.length c1); rw [h63]; exact hb.cell rfl, by show View .i64 _ a1 xs.length xs; rw [h63]; exact h1.below (Nat.le_refl _) hB⟩
  · exact ⟨_, _, a2, c2, rfl, hb.cell rfl, by show _ = some (Value.slice a2 xs.length c2); rw [h63]; exact hb.cell rfl, by show View .i64 _ a2 xs.length xs; rw [h63]; exact h2.below (Nat.le_refl _) hB⟩
  · exact ⟨_, _, a3, c3, rfl, hb.cell rfl, by show _ = some (Value.slice a3 xs.length c3); rw [h63]; exact hb.cell rfl, by show View .i64 _ a3 xs.length xs; rw [h63]; exact h3.below (Nat.le_refl _) hB⟩

/-- What the operations of the last statement leave. -/
def VL (d : Int) (xs : List Int) (bk m1 m2 x : Value) : Nat → Value → World → Prop
  | 2, v, _ => v = bk
  | 3, v, _ => v = m1
  | 4, v, w => ∃ a c, v = .agg #[.int .i64 d, .slice a 63 c] ∧ View .i64 w a 63 xs
  | 5, v, _ => v = m2
  | 6, v, w => ∃ a c, v = .agg #[.int .i64 d, .slice a 63 c] ∧ View .i64 w a 63 xs
  | 7, v, w => ∃ a c, v = .slice a 3 c ∧ BRow w a [(d, xs), (d, xs), (d, xs)]
  | 8, v, _ => v = x
  | 9, v, _ => v = x
  | 10, v, _ => v = x
  | 11, v, w => ∃ a c, v = .slice a 3 c ∧ BRow w a [(d, xs), (d, xs), (d, xs)]
  | _, v, _ => v = .bool true
theorem VL.below {d : Int} {xs : List Int} {bk m1 m2 x : Value} {w w' : World} (hb : Below w.heap.size w w') (j : Nat) (hj : j < 15) (v : Value) (h : VL d xs bk m1 m2 x j v w) : VL d xs bk m1 m2 x j v w' := by
  obtain rfl | rfl | rfl | rfl | rfl | rfl | rfl | rfl | rfl | rfl | rfl | rfl | rfl | rfl | rfl : j = 0 ∨ j = 1 ∨ j = 2 ∨ j = 3 ∨ j = 4 ∨ j = 5 ∨ j = 6 ∨ j = 7 ∨ j = 8 ∨ j = 9 ∨ j = 10 ∨ j = 11 ∨ j = 12 ∨ j = 13 ∨ j = 14 := by omega
  all_goals first
    | exact h
    | (obtain ⟨a, c, e, h1⟩ := h; exact ⟨a, c, e, h1.below (Nat.le_refl _) hb⟩)
    | (obtain ⟨a, c, e, h1⟩ := h; exact ⟨a, c, e, BRow.below h1 hb⟩)
def DL (j : Nat) : Nat := [78, 79, 80, 81, 82, 83, 84, 85, 86, 87, 88, 89, 90, 91, 2].getD j 0
theorem DL_ne : ∀ i j : Fin 15, i ≠ j → DL j.val ≠ DL i.val := by decide
theorem view63 {w : World} {base : Nat} {da : Option Addr} {dc : Nat} {xs : List Int} (h : Own w base 3 .i64 (.slice da 63 dc) xs) (h63 : xs.length = 63) : View .i64 w da 63 xs := by
  obtain ⟨a2, c2, e, v⟩ := h.view
  have e2 : da = a2 := by injection e
  subst e2
  rw [h63] at v
  exact v
/-- What stands behind the two turns: the block, the one mirrored, the one transposed. -/
def StC (w : World) (B4 N5 N6 : Nat) (d : Int) (a : Option Addr) (c : Nat) (xs : List Int) (D1 : Int) (ya : Option Addr) (yc : Nat) (X1 : List Int) (D2 : Int) (za : Option Addr) (zc' : Nat) (X2 : List Int) (q : World) : Prop :=
  Below w.heap.size w q ∧ Blk q B4 [.int .i64 d, .slice a 63 c] 28 ∧ Blk q N5 [.int .i64 D1, .slice ya 63 yc] 28 ∧ Blk q N6 [.int .i64 D2, .slice za 63 zc'] 28 ∧ View .i64 q a 63 xs ∧ View .i64 q ya 63 X1 ∧ View .i64 q za 63 X2
theorem StC.step {w : World} {B4 N5 N6 : Nat} {d : Int} {a : Option Addr} {c : Nat} {xs : List Int} {D1 : Int} {ya : Option Addr} {yc : Nat} {X1 : List Int} {D2 : Int} {za : Option Addr} {zc' : Nat} {X2 : List Int} {q q' : World}
    (h : StC w B4 N5 N6 d a c xs D1 ya yc X1 D2 za zc' X2 q) (hb : Below q.heap.size q q') : StC w B4 N5 N6 d a c xs D1 ya yc X1 D2 za zc' X2 q' :=
  ⟨h.1.trans (hb.mono h.1.size), h.2.1.below hb h.2.1.lt, h.2.2.1.below hb h.2.2.1.lt, h.2.2.2.1.below hb h.2.2.2.1.lt, h.2.2.2.2.1.below (Nat.le_refl _) hb, h.2.2.2.2.2.1.below (Nat.le_refl _) hb, h.2.2.2.2.2.2.below (Nat.le_refl _) hb⟩
theorem getD_tf {l : Array Bool} {i : Nat} (h : l.getD i false = true) (k : l.getD i true = false) : False := by
  unfold Array.getD at h k
  split at h
  · rw [dif_pos (by assumption)] at k
    rw [h] at k
    cases k
  · cases h
theorem DT_5 : ∀ j, j < 8 → j ≠ 4 → DT j = 5 → j = 6 := by decide
theorem DT_6 : ∀ j, j < 8 → j ≠ 5 → DT j = 6 → j = 7 := by decide

set_option maxRecDepth 100000 in
set_option maxHeartbeats 6400000 in
theorem law_cells (ao : Option Addr) (n cap : Nat) (zs : List Int) (w : World) (hr : IsRow .u8 w ao n cap zs) (hw : WayAt w) :
    Calls Tryd.prog 3 #[.slice ao n cap] w fun e w' => e = .returned (.bool true) ∧ Below w.heap.size w w' := by
  have hlen := hr.len.1
  by_cases hl : (1048576 : Int) < (n : Int)
  · have hd : decide ((1048576 : Int) < (n : Int)) = true := by simpa using hl
    clear hr
    go_enter Tryd.func3, Tryd.ntmps3
    go_wp2_with (go_at_call 8; refine (big_any _ _ _ _).mono ?_; rw [hd]; rintro e w' ⟨rfl, rfl⟩)
    go_ret
    exact ⟨rfl, Below.refl _ _⟩
  · have hd : decide ((1048576 : Int) < (n : Int)) = false := by simpa using hl
    have HW := hid hw
    have HC := hid (code_row hr (by omega))
    clear hr hl hw
    go_enter Tryd.func3, Tryd.ntmps3
    go_wp2_with fail
    refine (big_any _ _ _ _).mono ?_
    rw [hd]
    rintro e w' ⟨rfl, rfl⟩
    clear hd
    go_wp2_with fail
    refine (draw_blocks ao n cap _ w HC.out).mono ?_
    rintro e w1 ⟨v1, rfl, ⟨L, ⟨hL1, hL2⟩, hoks, hown1⟩, hb1⟩
    obtain ⟨lo, lc, hsv⟩ := hown1.shape
    subst hsv
    have B1 := hid hb1
    obtain ⟨b, off, a, c, rfl, hc1, hc2, hvw⟩ := hown1.brow 0 (by omega)
    have hok := hoks 0 (by omega)
    have h63 := (blk_at hok).2.1
    rw [h63] at hc2 hvw
    have HV := hid hvw
    have HOK := hid hok
    clear hb1 hown1 hoks hvw hok
    generalize (nth L 0).1 = d at *
    generalize (nth L 0).2 = xs at *
    simp only [Nat.zero_mul, Nat.add_zero] at hc1 hc2
    have hL0 : (0 : Int) < (L.length : Int) := by omega
    go_upto_region 5 with fail
    have HMI := hid (fun v q hv (hq : Below w.heap.size w q) => impl_mirror v d xs q (by omega) hv (HW.out.below hq))
    have HTI := hid (fun v q hv (hq : Below w.heap.size w q) => impl_transpose v d xs q (by omega) hv (HW.out.below hq))
    have HB0 := hid (Blk.new w1 [.int .i64 d, .slice a 63 c] 28)
    have hA0 : Below w1.heap.size w1 (w1.alloc (.cells #[.int .i64 d, .slice a 63 c] 28)) := (Below.refl _ _).alloc (Nat.le_refl _) _
    have hA1 : Below w.heap.size w (w1.alloc (.cells #[.int .i64 d, .slice a 63 c] 28)) := B1.out.trans (hA0.mono B1.out.size)
    have hsz0 : (w1.alloc (.cells #[.int .i64 d, .slice a 63 c] 28)).heap.size = w1.heap.size + 1 := by simp
    have HA0 := hid hA0
    have HA1 := hid hA1
    clear hA0 hA1
    go_cut [5, 6] from 20 to 91 (fun p q wx => ∃ N5 N6 va vb, p = .pointer (some ⟨N5, 0, none⟩) ∧ q = .pointer (some ⟨N6, 0, none⟩) ∧ Blk wx N5 [.int .i64 (tbD (mirTo (sq d xs) 64) d xs), va] 28 ∧ Blk wx N6 [.int .i64 (tbD (trTo (sq d xs) 64) d xs), vb] 28 ∧ Own wx (w1.heap.size + 1) 3 .i64 va (tbA (mirTo (sq d xs) 64) d xs) ∧ Own wx (w1.heap.size + 1) 3 .i64 vb (tbA (trTo (sq d xs) 64) d xs) ∧ Below (w1.heap.size + 1) (w1.alloc (.cells #[.int .i64 d, .slice a 63 c] 28)) wx)
    case first =>
      generalize tbD (mirTo (sq d xs) 64) d xs = D1 at *
      generalize tbA (mirTo (sq d xs) 64) d xs = X1 at *
      generalize tbD (trTo (sq d xs) 64) d xs = D2 at *
      generalize tbA (trTo (sq d xs) 64) d xs = X2 at *
      generalize w1.alloc (.cells #[.int .i64 d, .slice a 63 c] 28) = w2 at *
      refine wp_region_any (by kernel_rfl) ?_
      refine wpAny_inv (fun listed ac wq => ∃ u : Nat → Value, ac = { tmps := #[.slice ao n cap, undef, .bool false, .slice (some ⟨b, off, none⟩) L.length lc, .pointer (some ⟨w1.heap.size, 0, none⟩), u 5, u 6, undef, undef, undef, undef, undef, undef, .slice ao n cap, .bool false, .slice ao n cap, .slice (some ⟨b, off, none⟩) L.length lc, .slice (some ⟨b, off, none⟩) L.length lc, .pointer (some ⟨b, off, none⟩), .agg #[.int .i64 d, .slice a 63 c], u 20, u 21, u 22, u 23, undef, undef, undef, undef, undef, undef, undef, undef, undef, undef, undef, undef, undef, undef, undef, undef, undef, undef, undef, undef, undef, undef, undef, undef, undef, undef, undef, undef, undef, undef, undef, undef, undef, undef, undef, undef, undef, undef, undef, undef, undef, undef, undef, undef, undef, undef, undef, undef, undef, undef, undef, undef, undef, undef, undef, undef, undef, undef, undef, undef, undef, undef, undef, undef, undef, undef, undef, undef], defers := [] } ∧ Below (w1.heap.size + 1) w2 wq ∧ (listed.getD 4 false = true → listed.getD 5 false = true → ∀ N N', u 5 = .pointer (some ⟨N, 0, none⟩) → u 6 = .pointer (some ⟨N', 0, none⟩) → N ≠ N') ∧ Facts 8 (VT (w1.heap.size + 1) d D1 (.agg #[.int .i64 d, .slice a 63 c]) X1 D2 X2) DT listed u wq) ?hpre ?hstep ?hend _ _ _ _ (by decide) (by decide) (fun j oj _ h => by exfalso; revert h; simp [Array.getD]) ?hinit
      case hinit => exact ⟨fun _ => undef, rfl, by rw [← hsz0]; exact belowN (Below.refl _ _) 1, fun h => by exfalso; revert h; simp [Array.getD], fun j hj h => by exfalso; revert h; simp [Array.getD]⟩
      case hpre => exact pre_of (by kernel_rfl)
      case hend =>
        rintro listed ac wq hall ⟨u, rfl, he, hnn, hF⟩
        obtain ⟨N5, va, e5, _, hb5, ho5⟩ : ∃ N va, u 5 = .pointer (some ⟨N, 0, none⟩) ∧ w1.heap.size + 1 ≤ N ∧ Blk wq N [.int .i64 D1, va] 28 ∧ Own wq (w1.heap.size + 1) 3 .i64 va X1 := hF 6 (by decide) (hall 6 (by decide))
        obtain ⟨N6, vb, e6, _, hb6, ho6⟩ : ∃ N va, u 6 = .pointer (some ⟨N, 0, none⟩) ∧ w1.heap.size + 1 ≤ N ∧ Blk wq N [.int .i64 D2, va] 28 ∧ Own wq (w1.heap.size + 1) 3 .i64 va X2 := hF 7 (by decide) (hall 7 (by decide))
        go_wp2_with fail
        go_meet
        exact ⟨N5, N6, va, vb, e5, e6, hb5, hb6, ho5, ho6, he⟩
      case hstep =>
        rintro listed ac wq i o hszl ⟨u, rfl, he, hnn, hF⟩ ho hall hun hcl
        have hin : i < 8 := (Array.getElem?_eq_some_iff.1 ho).1
        have hszq : w1.heap.size + 1 ≤ wq.heap.size := by have := he.size; omega
        have HP := HB0.out.below he (by omega)
        have c0 := HP.cell (i := 0) rfl
        have c1 := HP.cell (i := 1) rfl
        have HBQ := hid (HA1.out.trans (he.mono (by have := B1.out.size; omega)))
        have HVQ := hid (HV.out.below (Nat.le_refl _) (HA0.out.trans (he.mono (by omega))))
        have ST : Hid (i ≠ 4 → i ≠ 5 → i ≠ 6 → i ≠ 7 → ∀ (wz : World) (v : Value), Below wq.heap.size wq wz → VT (w1.heap.size + 1) d D1 (.agg #[.int .i64 d, .slice a 63 c]) X1 D2 X2 i v wz → Below (w1.heap.size + 1) w2 wz ∧ ((listed.setIfInBounds i true).getD 4 false = true → (listed.setIfInBounds i true).getD 5 false = true → ∀ N N', upd u (DT i) v 5 = .pointer (some ⟨N, 0, none⟩) → upd u (DT i) v 6 = .pointer (some ⟨N', 0, none⟩) → N ≠ N') ∧ Facts 8 (VT (w1.heap.size + 1) d D1 (.agg #[.int .i64 d, .slice a 63 c]) X1 D2 X2) DT (listed.setIfInBounds i true) (upd u (DT i) v) wz) := fun h4 h5 h6 h7 wz v hez hv => ⟨he.trans (hez.mono hszq), fun g4 g5 N N' e4 e5 => by
          rw [Go.getD_set_ne false h4] at g4
          rw [Go.getD_set_ne false h5] at g5
          have n4 : (5 : Nat) ≠ DT i := DT_ne ⟨i, hin⟩ ⟨4, by decide⟩ (fun e => h4 (congrArg Fin.val e)) h4 h5 h6 h7
          have n5 : (6 : Nat) ≠ DT i := DT_ne ⟨i, hin⟩ ⟨5, by decide⟩ (fun e => h5 (congrArg Fin.val e)) h4 h5 h6 h7
          have e4' : upd u (DT i) v 5 = u 5 := by show (if 5 = DT i then v else u 5) = u 5; rw [if_neg n4]
          have e5' : upd u (DT i) v 6 = u 6 := by show (if 6 = DT i then v else u 6) = u 6; rw [if_neg n5]
          rw [e4'] at e4
          rw [e5'] at e5
          exact hnn g4 g5 N N' e4 e5, hF.step i v (fun j hj hne _ => DT_ne ⟨i, hin⟩ ⟨j, hj⟩ (fun e => hne (congrArg Fin.val e).symm) h4 h5 h6 h7) (fun j x _ h => VT.below hez _ _ h) hv⟩
        obtain rfl | rfl | rfl | rfl | rfl | rfl | rfl | rfl : i = 0 ∨ i = 1 ∨ i = 2 ∨ i = 3 ∨ i = 4 ∨ i = 5 ∨ i = 6 ∨ i = 7 := by omega
        · cases ho
          refine wpOp_step rfl (fun K hK => ?_)
          go_simp
          refine hK _ _ ⟨upd u 20 (.agg #[.int .i64 d, .slice a 63 c]), ?_, ST.out (by decide) (by decide) (by decide) (by decide) _ _ (Below.refl _ _) rfl⟩
          simp [upd]
        · cases ho
          have f0 : u 20 = .agg #[.int .i64 d, .slice a 63 c] := hF 0 (by decide) (hall ⟨0, .data⟩ (by simp) rfl)
          refine wpOp_step rfl (fun K hK => ?_)
          simp only [f0]
          go_simp
          go_wp2_with (go_at_call 10; refine (HMI.out _ _ ⟨a, c, by rw [h63], by rw [h63]; exact HVQ.out⟩ HBQ.out).mono ?_; rintro e wz ⟨v, rfl, ⟨va, rfl, hO⟩, hbz⟩)
          first | refine hK _ _ ⟨upd u 21 (.agg #[.int .i64 D1, va]), ?_, ST.out (by decide) (by decide) (by decide) (by decide) _ _ hbz ⟨va, rfl, hO.mono hszq⟩⟩ | refine ⟨upd u 21 (.agg #[.int .i64 D1, va]), ?_, ST.out (by decide) (by decide) (by decide) (by decide) _ _ hbz ⟨va, rfl, hO.mono hszq⟩⟩
          simp [upd, f0]
        · cases ho
          refine wpOp_step rfl (fun K hK => ?_)
          go_simp
          refine hK _ _ ⟨upd u 22 (.agg #[.int .i64 d, .slice a 63 c]), ?_, ST.out (by decide) (by decide) (by decide) (by decide) _ _ (Below.refl _ _) rfl⟩
          simp [upd]
        · cases ho
          have f2 : u 22 = .agg #[.int .i64 d, .slice a 63 c] := hF 2 (by decide) (hall ⟨2, .data⟩ (by simp) rfl)
          refine wpOp_step rfl (fun K hK => ?_)
          simp only [f2]
          go_simp
          go_wp2_with (go_at_call 11; refine (HTI.out _ _ ⟨a, c, by rw [h63], by rw [h63]; exact HVQ.out⟩ HBQ.out).mono ?_; rintro e wz ⟨v, rfl, ⟨va, rfl, hO⟩, hbz⟩)
          first | refine hK _ _ ⟨upd u 23 (.agg #[.int .i64 D2, va]), ?_, ST.out (by decide) (by decide) (by decide) (by decide) _ _ hbz ⟨va, rfl, hO.mono hszq⟩⟩ | refine ⟨upd u 23 (.agg #[.int .i64 D2, va]), ?_, ST.out (by decide) (by decide) (by decide) (by decide) _ _ hbz ⟨va, rfl, hO.mono hszq⟩⟩
          simp [upd, f2]
        · cases ho
          refine wpOp_step rfl (fun K hK => ?_)
          go_simp
          have hbz : Below wq.heap.size wq (wq.alloc (.cells #[.int .i64 0, .slice none 0 0] 28)) := (Below.refl _ _).alloc (Nat.le_refl _) _
          refine hK _ _ ⟨upd u 5 (.pointer (some ⟨wq.heap.size, 0, none⟩)), ?_, he.trans (hbz.mono hszq), ?_, ?_⟩
          · simp [upd]
          · intro h4 h5 N N' e4 e5
            rw [Go.getD_set_ne false (by decide)] at h5
            have hV := hF 5 (by decide) h5
            obtain ⟨N2, p, q, e2, _, hB2⟩ : ∃ N2 p q, u 6 = .pointer (some ⟨N2, 0, none⟩) ∧ w1.heap.size + 1 ≤ N2 ∧ Blk wq N2 [p, q] 28 := hV
            have h2 := hB2.lt
            simp [upd, e2] at e4 e5
            omega
          · intro j hj hlj
            by_cases e : j = 4
            · subst e
              exact ⟨wq.heap.size, _, _, by simp [upd, DT], hszq, Blk.new _ _ _⟩
            · rw [Go.getD_set_ne false (fun h => e h.symm)] at hlj
              have hnd : DT j ≠ 5 := by
                intro e3
                have hj6 : j = 6 := DT_5 j hj e e3
                subst hj6
                exact (getD_tf (hcl 6 _ rfl hlj ⟨4, .data⟩ (by simp) rfl) hun).elim
              have e4 : upd u 5 (.pointer (some ⟨wq.heap.size, 0, none⟩)) (DT j) = u (DT j) := by simp [upd, hnd]
              rw [e4]
              exact VT.below hbz j _ (hF j hj hlj)
        · cases ho
          refine wpOp_step rfl (fun K hK => ?_)
          go_simp
          have hbz : Below wq.heap.size wq (wq.alloc (.cells #[.int .i64 0, .slice none 0 0] 28)) := (Below.refl _ _).alloc (Nat.le_refl _) _
          refine hK _ _ ⟨upd u 6 (.pointer (some ⟨wq.heap.size, 0, none⟩)), ?_, he.trans (hbz.mono hszq), ?_, ?_⟩
          · simp [upd]
          · intro h4 h5 N N' e4 e5
            rw [Go.getD_set_ne false (by decide)] at h4
            have hV := hF 4 (by decide) h4
            obtain ⟨N2, p, q, e2, _, hB2⟩ : ∃ N2 p q, u 5 = .pointer (some ⟨N2, 0, none⟩) ∧ w1.heap.size + 1 ≤ N2 ∧ Blk wq N2 [p, q] 28 := hV
            have h2 := hB2.lt
            simp [upd, e2] at e4 e5
            omega
          · intro j hj hlj
            by_cases e : j = 5
            · subst e
              exact ⟨wq.heap.size, _, _, by simp [upd, DT], hszq, Blk.new _ _ _⟩
            · rw [Go.getD_set_ne false (fun h => e h.symm)] at hlj
              have hnd : DT j ≠ 6 := by
                intro e3
                have hj6 : j = 7 := DT_6 j hj e e3
                subst hj6
                exact (getD_tf (hcl 7 _ rfl hlj ⟨5, .data⟩ (by simp) rfl) hun).elim
              have e4 : upd u 6 (.pointer (some ⟨wq.heap.size, 0, none⟩)) (DT j) = u (DT j) := by simp [upd, hnd]
              rw [e4]
              exact VT.below hbz j _ (hF j hj hlj)
        · cases ho
          have HALL6 : ∀ k, k < 6 → listed.getD k false = true := fun k hk => by
            obtain rfl | rfl | rfl | rfl | rfl | rfl : k = 0 ∨ k = 1 ∨ k = 2 ∨ k = 3 ∨ k = 4 ∨ k = 5 := by omega
            · exact hall ⟨0, .phase⟩ (by simp) rfl
            · exact hall ⟨1, .phase⟩ (by simp) rfl
            · exact hcl 3 _ rfl (hall ⟨3, .chain⟩ (by simp) rfl) ⟨2, .data⟩ (by simp) rfl
            · exact hall ⟨3, .chain⟩ (by simp) rfl
            · exact hall ⟨4, .phase⟩ (by simp) rfl
            · exact hall ⟨5, .phase⟩ (by simp) rfl
          obtain ⟨N4, p4, r4, f4, hM4, hB4⟩ : ∃ N p q, u 5 = .pointer (some ⟨N, 0, none⟩) ∧ w1.heap.size + 1 ≤ N ∧ Blk wq N [p, q] 28 := hF 4 (by decide) (HALL6 4 (by decide))
          obtain ⟨N5, p5, r5, f5, hM5, hB5⟩ : ∃ N p q, u 6 = .pointer (some ⟨N, 0, none⟩) ∧ w1.heap.size + 1 ≤ N ∧ Blk wq N [p, q] 28 := hF 5 (by decide) (HALL6 5 (by decide))
          have hNN := hnn (HALL6 4 (by decide)) (HALL6 5 (by decide)) N4 N5 f4 f5
          obtain ⟨va, f1, hO⟩ : ∃ va, u 21 = .agg #[.int .i64 D1, va] ∧ Own wq (w1.heap.size + 1) 3 .i64 va X1 := hF 1 (by decide) (HALL6 1 (by decide))
          obtain ⟨oo, oc, rfl⟩ := hO.shape
          have g0 := hB4.cell (i := 0) rfl
          have g1 := hB4.cell (i := 1) rfl
          have k0 := hB4.free 0
          have k1 := hB4.free 1
          have hfar : ∀ (v : Value) (xs : List Int), Own wq (w1.heap.size + 1) 3 .i64 v xs → Own ((wq.setCell ⟨N4, 0, none⟩ (.int .i64 D1)).setCell ⟨N4, 1, none⟩ (.slice oo X1.length oc)) (w1.heap.size + 1) 3 .i64 v xs := fun v xs h => own_far (own_far h (own_ne h hB4 (by decide))) (own_ne h hB4 (by decide))
          refine wpOp_step rfl (fun K hK => ?_)
          simp only [f4, f1]
          go_simp
          refine hK _ _ ⟨u, ?_, belowSet (belowSet he (by omega) _) (by omega) _, ?_, ?_⟩
          · simp [f4, f5, f1]
          · intro _ _ N N' e4 e5
            rw [f4] at e4
            rw [f5] at e5
            cases e4
            cases e5
            exact hNN
          · intro j hj hlj
            have hB4' : ∃ p q, Blk ((wq.setCell ⟨N4, 0, none⟩ (.int .i64 D1)).setCell ⟨N4, 1, none⟩ (.slice oo X1.length oc)) N4 [p, q] 28 := ⟨_, _, (hB4.set 0 _).set 1 _⟩
            have hB5' : ∃ p q, Blk ((wq.setCell ⟨N4, 0, none⟩ (.int .i64 D1)).setCell ⟨N4, 1, none⟩ (.slice oo X1.length oc)) N5 [p, q] 28 := ⟨_, _, (hB5.otherB (fun e => hNN e.symm) _).otherB (fun e => hNN e.symm) _⟩
            by_cases e : j = 6
            · subst e
              exact ⟨N4, _, f4, hM4, (hB4.set 0 _).set 1 _, hfar _ _ hO⟩
            · rw [Go.getD_set_ne false (fun h => e h.symm)] at hlj
              have hv := hF j hj hlj
              clear hF
              obtain rfl | rfl | rfl | rfl | rfl | rfl | rfl | rfl : j = 0 ∨ j = 1 ∨ j = 2 ∨ j = 3 ∨ j = 4 ∨ j = 5 ∨ j = 6 ∨ j = 7 := by omega
              · exact hv
              · obtain ⟨vb, e1, h1⟩ := hv
                exact ⟨vb, e1, hfar _ _ h1⟩
              · exact hv
              · obtain ⟨vb, e1, h1⟩ := hv
                exact ⟨vb, e1, hfar _ _ h1⟩
              · obtain ⟨p, q, h1⟩ := hB4'
                exact ⟨N4, p, q, f4, hM4, h1⟩
              · obtain ⟨p, q, h1⟩ := hB5'
                exact ⟨N5, p, q, f5, hM5, h1⟩
              · exact absurd rfl e
              · exact (getD_tf (hcl 7 _ rfl hlj ⟨6, .chain⟩ (by simp) rfl) hun).elim
        · cases ho
          have HALL7 : ∀ k, k < 6 → listed.getD k false = true := fun k hk => by
            obtain rfl | rfl | rfl | rfl | rfl | rfl : k = 0 ∨ k = 1 ∨ k = 2 ∨ k = 3 ∨ k = 4 ∨ k = 5 := by omega
            · exact hall ⟨0, .phase⟩ (by simp) rfl
            · exact hall ⟨1, .phase⟩ (by simp) rfl
            · exact hall ⟨2, .phase⟩ (by simp) rfl
            · exact hall ⟨3, .phase⟩ (by simp) rfl
            · exact hall ⟨4, .phase⟩ (by simp) rfl
            · exact hall ⟨5, .phase⟩ (by simp) rfl
          obtain ⟨N4, p4, r4, f4, hM4, hB4⟩ : ∃ N p q, u 5 = .pointer (some ⟨N, 0, none⟩) ∧ w1.heap.size + 1 ≤ N ∧ Blk wq N [p, q] 28 := hF 4 (by decide) (HALL7 4 (by decide))
          obtain ⟨N5, p5, r5, f5, hM5, hB5⟩ : ∃ N p q, u 6 = .pointer (some ⟨N, 0, none⟩) ∧ w1.heap.size + 1 ≤ N ∧ Blk wq N [p, q] 28 := hF 5 (by decide) (HALL7 5 (by decide))
          have hNN := hnn (HALL7 4 (by decide)) (HALL7 5 (by decide)) N4 N5 f4 f5
          obtain ⟨va, f1, hO⟩ : ∃ va, u 23 = .agg #[.int .i64 D2, va] ∧ Own wq (w1.heap.size + 1) 3 .i64 va X2 := hF 3 (by decide) (HALL7 3 (by decide))
          obtain ⟨oo, oc, rfl⟩ := hO.shape
          have g0 := hB5.cell (i := 0) rfl
          have g1 := hB5.cell (i := 1) rfl
          have k0 := hB5.free 0
          have k1 := hB5.free 1
          have hfar : ∀ (v : Value) (xs : List Int), Own wq (w1.heap.size + 1) 3 .i64 v xs → Own ((wq.setCell ⟨N5, 0, none⟩ (.int .i64 D2)).setCell ⟨N5, 1, none⟩ (.slice oo X2.length oc)) (w1.heap.size + 1) 3 .i64 v xs := fun v xs h => own_far (own_far h (own_ne h hB5 (by decide))) (own_ne h hB5 (by decide))
          refine wpOp_step rfl (fun K hK => ?_)
          simp only [f5, f1]
          go_simp
          refine hK _ _ ⟨u, ?_, belowSet (belowSet he (by omega) _) (by omega) _, ?_, ?_⟩
          · simp [f4, f5, f1]
          · intro _ _ N N' e4 e5
            rw [f4] at e4
            rw [f5] at e5
            cases e4
            cases e5
            exact hNN
          · intro j hj hlj
            have hB4' : ∃ p q, Blk ((wq.setCell ⟨N5, 0, none⟩ (.int .i64 D2)).setCell ⟨N5, 1, none⟩ (.slice oo X2.length oc)) N4 [p, q] 28 := ⟨_, _, (hB4.otherB hNN _).otherB hNN _⟩
            have hB5' : ∃ p q, Blk ((wq.setCell ⟨N5, 0, none⟩ (.int .i64 D2)).setCell ⟨N5, 1, none⟩ (.slice oo X2.length oc)) N5 [p, q] 28 := ⟨_, _, (hB5.set 0 _).set 1 _⟩
            by_cases e : j = 7
            · subst e
              exact ⟨N5, _, f5, hM5, (hB5.set 0 _).set 1 _, hfar _ _ hO⟩
            · rw [Go.getD_set_ne false (fun h => e h.symm)] at hlj
              have hv := hF j hj hlj
              clear hF
              obtain rfl | rfl | rfl | rfl | rfl | rfl | rfl | rfl : j = 0 ∨ j = 1 ∨ j = 2 ∨ j = 3 ∨ j = 4 ∨ j = 5 ∨ j = 6 ∨ j = 7 := by omega
              · exact hv
              · obtain ⟨vb, e1, h1⟩ := hv
                exact ⟨vb, e1, hfar _ _ h1⟩
              · exact hv
              · obtain ⟨vb, e1, h1⟩ := hv
                exact ⟨vb, e1, hfar _ _ h1⟩
              · obtain ⟨p, q, h1⟩ := hB4'
                exact ⟨N4, p, q, f4, hM4, h1⟩
              · obtain ⟨p, q, h1⟩ := hB5'
                exact ⟨N5, p, q, f5, hM5, h1⟩
              · obtain ⟨N, vb, e1, h1, h2, h3⟩ := hv
                have : N = N4 := by
                  have e2 : u 5 = .pointer (some ⟨N, 0, none⟩) := e1
                  rw [f4] at e2
                  cases e2
                  rfl
                subst this
                exact ⟨N, vb, e1, h1, (h2.otherB hNN _).otherB hNN _, hfar _ _ h3⟩
              · exact absurd rfl e
    case rest =>
      obtain ⟨N5, N6, va, vb, rfl, rfl, hb5, hb6, ho5, ho6, hbx⟩ := hcut
      rename World => w6
      obtain ⟨g5, s5, hl5⟩ := tb_ok (M := mirTo (sq d xs) 64) HOK.out (bd_mir (bd_sq HOK.out 63 (Nat.le_refl _)) 64) ((mirTo_len _ 64).trans (sq_len d xs))
      obtain ⟨g6, s6, hl6⟩ := tb_ok (M := trTo (sq d xs) 64) HOK.out (bd_tr (bd_sq HOK.out 63 (Nat.le_refl _)) 64) (trTo_len _ 64)
      have K5 := hid (tb_back (M := mirTo (sq (tbD (mirTo (sq d xs) 64) d xs) (tbA (mirTo (sq d xs) 64) d xs)) 64) (S := sq d xs) g5 HOK.out rfl (by rw [s5]; exact mir_mir _ (sq_len d xs)))
      have K6 := hid (tb_back (M := trTo (sq (tbD (trTo (sq d xs) 64) d xs) (tbA (trTo (sq d xs) 64) d xs)) 64) (S := sq d xs) g6 HOK.out rfl (by rw [s6]; exact tr_tr _ (sq_len d xs)))
      have C0 : Hid (∀ k : Nat, k < 64 → cellV d xs ((k : Int) / 8) ((k : Int) % 8) = (sq d xs).getD k 0) := hid (fun k hk => cell_in HOK.out k hk)
      have C5 : Hid (∀ k : Nat, k < 64 → cellV (tbD (mirTo (sq d xs) 64) d xs) (tbA (mirTo (sq d xs) 64) d xs) ((k : Int) / 8) ((k : Int) % 8) = if k < 64 ∧ k % 2 = 1 then -((sq d xs).getD k 0) else (sq d xs).getD k 0) := hid (fun k hk => (cell_in g5 k hk).trans (by rw [s5, mirTo_at _ (sq_len d xs) 64 (Nat.le_refl _)]))
      have C6 : Hid (∀ k : Nat, k < 64 → cellV (tbD (trTo (sq d xs) 64) d xs) (tbA (trTo (sq d xs) 64) d xs) ((k : Int) % 8) ((k : Int) / 8) = (sq d xs).getD k 0) := hid (fun k hk => (cell_tr g6 k hk).trans (by rw [s6]; exact trTo_at _ 64 (Nat.le_refl _) k hk))
      have HFO : Hid (fcOk (sq d xs) = true ∧ (sq d xs).getD 0 0 = d ∧ acTo (sq d xs) 63 = xs) := hid ⟨fcOk_bd (bd_sq HOK.out 63 (Nat.le_refl _)), sq_0 d xs, ac_sq d xs h63⟩
      have HBD : Hid (Bd (sq d xs)) := hid (bd_sq HOK.out 63 (Nat.le_refl _))
      have HS64 := hid (sq_len d xs)
      clear s5 s6
      obtain ⟨ya, yc, rfl⟩ := ho5.shape
      obtain ⟨za, zc', rfl⟩ := ho6.shape
      rw [hl5] at hb5 ho5
      rw [hl6] at hb6 ho6
      generalize tbD (mirTo (sq d xs) 64) d xs = D1 at *
      generalize tbA (mirTo (sq d xs) 64) d xs = X1 at *
      generalize tbD (trTo (sq d xs) 64) d xs = D2 at *
      generalize tbA (trTo (sq d xs) 64) d xs = X2 at *
      have hW6 : Below w.heap.size w w6 := HA1.out.trans (hbx.mono (by have := B1.out.size; omega))
      have hst : StC w w1.heap.size N5 N6 d a c xs D1 ya yc X1 D2 za zc' X2 w6 := by
        refine ⟨hW6, HB0.out.below hbx (by omega), hb5, hb6, HV.out.below (Nat.le_refl _) (HA0.out.trans (hbx.mono (by omega))), ?_, ?_⟩
        · obtain ⟨a2, c2, e, v⟩ := ho5.view
          have e2 : ya = a2 := by injection e
          subst e2
          rw [hl5] at v
          exact v
        · obtain ⟨a2, c2, e, v⟩ := ho6.view
          have e2 : za = a2 := by injection e
          subst e2
          rw [hl6] at v
          exact v
      have HST := hid hst
      clear hW6 hst hb5 hb6 ho5 ho6 hbx HB0 HA0 HA1 hsz0 HV hc1 hc2
      generalize sq d xs = S at *
      go_wp2_with (first | (with_reducible refine at_alloc 30 ?_; refine wpList_newZ _ rfl 30 rfl (ivs z64) zero30 ?_) | (with_reducible refine at_build 30 ?_; refine wpList_build0 _ rfl 30 rfl (ivs z64) build30 ?_) | (with_reducible refine at_store 30 ?_; refine wpList_storeR _ rfl 30 _ _ rfl w6.heap.size (ivs z64) (ivs z64) (Blk.new _ _ _) (by go_simp) rfl rfl (size30L z64_len) (ivs_one _) ?_))
      intro w7 hb7 he7
      have hB67 := hid (Below.trans ((Below.refl w6.heap.size w6).alloc (Nat.le_refl _) (.cells (ivs z64).toArray 30)) (he7.below (Nat.le_refl _) (by simp)))
      obtain ⟨N7, hN7⟩ : ∃ N7, N7 = w6.heap.size := ⟨_, rfl⟩
      rw [← hN7] at hb7 he7 hB67 ⊢
      have HST6 := hid (fun q (hq : Below N7 w6 q) => HST.out.step (by rw [← hN7]; exact hq))
      have HD7 := hid hb7
      have hN7s : N7 < w7.heap.size := hb7.lt
      clear hb7 he7 hN7 HST
      go_wp2_with fail
      go_loopw [8] (fun i wr => ∃ k : Nat, k ≤ 64 ∧ i = .int .i64 k ∧ Hid (Blk wr N7 (ivs (cpTo S k)) 30) ∧ Hid (Below N7 w6 wr)) (fun i _ => 64 - (intOf i).toNat)
      case atStart => exact ⟨0, by omega, rfl, HD7.out, hB67.out⟩
      case round =>
        obtain ⟨k, hk, rfl, hD, hB⟩ := hrel
        by_cases hlt : k < 64
        · have hlt' : (k : Int) < 64 := by omega
          have HR0 := hid (HST6.out wr hB.out)
          have HMC := hid (fun v d xs r c q (hv : BV q v d xs) (hx : xs.length = 63) (hq : Below w.heap.size w q) => impl_cell v d xs r c q (by omega) hv (HW.out.below hq))
          have HN : Hid (cpTo S (k + 1) = (cpTo S k).set k (S.getD k 0)) := rfl
          have e0 := C0.out k hlt
          have e5 := C5.out k hlt
          have e6 := C6.out k hlt
          have hbd : Hid (-1023 ≤ S.getD k 0 ∧ S.getD k 0 ≤ 1023) := hid (HBD.out k)
          have hcl := hD.out.cell (ivs_get (cpTo S k) k (by rw [cpTo_len]; exact hlt))
          have q0 := HR0.out.2.1.cell (i := 0) rfl
          have q1 := HR0.out.2.1.cell (i := 1) rfl
          generalize S.getD k 0 = Y at *
          have H0 := hid (HMC.out (.agg #[.int .i64 d, .slice a 63 c]) d xs ((k : Int) / 8) ((k : Int) % 8) wr ⟨a, c, by rw [h63], by rw [h63]; exact HR0.out.2.2.2.2.1⟩ h63 HR0.out.1)
          rw [e0] at H0
          clear q0 q1 e0
          have q0 := HR0.out.2.1.cell (i := 0) rfl
          have q1 := HR0.out.2.1.cell (i := 1) rfl
          go_wp2_with fail
          refine H0.out.mono ?_
          rintro e wa ⟨rfl, hba⟩
          have HRa := hid (HR0.out.step hba)
          have hDa := hid (hD.out.below hba hD.out.lt)
          have hBa := hid (hB.out.trans (hba.mono (by have := hD.out.lt; omega)))
          have hca := hDa.out.cell (ivs_get (cpTo S k) k (by rw [cpTo_len]; exact hlt))
          have hfa := hDa.out.free k
          clear hba H0 HR0 q0 q1 hcl
          have hDb := hid (by rw [HN.out, ← ivs_set]; exact hDa.out.set k (.int .i64 Y) : Blk (wa.setCell ⟨N7, k, none⟩ (.int .i64 Y)) N7 (ivs (cpTo S (k + 1))) 30)
          have hBb := hid (belowSet (i := k) hBa.out (Nat.le_refl _) (.int .i64 Y))
          have HRb := hid (HST6.out _ hBb.out)
          have q5 := HRb.out.2.2.1.cell (i := 0) rfl
          have q6 := HRb.out.2.2.1.cell (i := 1) rfl
          have H5 := hid (HMC.out (.agg #[.int .i64 D1, .slice ya 63 yc]) D1 X1 ((k : Int) / 8) ((k : Int) % 8) _ ⟨ya, yc, by rw [hl5], by rw [hl5]; exact HRb.out.2.2.2.2.2.1⟩ hl5 HRb.out.1)
          rw [e5] at H5
          clear e5 HRa hDa hBa
          generalize hYY : (if k < 64 ∧ k % 2 = 1 then -Y else Y) = Z at *
          go_wp2_with fail
          refine H5.out.mono ?_
          generalize wa.setCell ⟨N7, k, none⟩ (.int .i64 Y) = wb at *
          rintro e wc ⟨rfl, hbc⟩
          have HRc := hid (HRb.out.step hbc)
          have hDc := hid (hDb.out.below hbc hDb.out.lt)
          have hBc := hid (hBb.out.trans (hbc.mono (by have := hDb.out.lt; omega)))
          have q7 := HRc.out.2.2.2.1.cell (i := 0) rfl
          have q8 := HRc.out.2.2.2.1.cell (i := 1) rfl
          have H6 := hid (HMC.out (.agg #[.int .i64 D2, .slice za 63 zc']) D2 X2 ((k : Int) % 8) ((k : Int) / 8) wc ⟨za, zc', by rw [hl6], by rw [hl6]; exact HRc.out.2.2.2.2.2.2⟩ hl6 HRc.out.1)
          rw [e6] at H6
          clear e6 hbc H5 HRb hDb hBb q5 q6 hca hfa HMC C0 C5 C6 HBD HFO K5 K6 HTI HMI HN
          have hwr : wrap64 (-Y) = -Y := w64 (by have := hbd.out; omega) (by have := hbd.out; omega)
          have hYe : (Y != Y) = false := by simp
          by_cases hp : k % 2 = 1
          · have hp1 : ((k : Int) % 2 == 1) = true := by simp; omega
            have hp0 : ((k : Int) % 2 == 0) = false := by simp; omega
            rw [if_pos ⟨hlt, hp⟩] at hYY
            have hwr2 : IntKind.i64.wrap (-Y) = Z := by rw [IntKind.wrap_i64]; have := hbd.out; omega
            rw [hYY] at hwr
            have hZe : (Z != Z) = false := by simp
            clear hYY hp hbd
            go_wp2_with fail
            refine H6.out.mono ?_
            rintro e wd ⟨rfl, hbd⟩
            have hDd := hid (hDc.out.below hbd hDc.out.lt)
            have hBd := hid (hBc.out.trans (hbd.mono (by have := hDc.out.lt; omega)))
            go_wp2_with fail
            go_roundw
            case rel => exact ⟨k + 1, by omega, by go_num, hDd.out, hBd.out⟩
            case measure => simp [intOf]; omega
          · have hp1 : ((k : Int) % 2 == 1) = false := by simp; omega
            have hp0 : ((k : Int) % 2 == 0) = true := by simp; omega
            rw [if_neg (fun e => hp e.2)] at hYY
            have hZe : (Z != Y) = false := by simp [hYY]
            clear hYY hp hwr hbd
            go_wp2_with fail
            refine H6.out.mono ?_
            rintro e wd ⟨rfl, hbd⟩
            have hDd := hid (hDc.out.below hbd hDc.out.lt)
            have hBd := hid (hBc.out.trans (hbd.mono (by have := hDc.out.lt; omega)))
            go_wp2_with fail
            go_roundw
            case rel => exact ⟨k + 1, by omega, by go_num, hDd.out, hBd.out⟩
            case measure => simp [intOf]; omega
        · obtain rfl : k = 64 := by omega
          have hD2 := hid hD.out
          rw [cpTo_all S HS64.out] at hD2
          have HR0 := hid (HST6.out wr hB.out)
          have HFI := hid (impl_from S HS64.out wr (HW.out.below HR0.out.1))
          have hfd : fcD S = d := by unfold fcD; rw [HFO.out.1, if_pos rfl]; exact HFO.out.2.1
          have hfa : fcA S = xs := by unfold fcA; rw [HFO.out.1, if_pos rfl]; exact HFO.out.2.2
          rw [HFO.out.1, hfd, hfa] at HFI
          clear hfd hfa hD hlt hk
          go_wp2_with (with_reducible refine at_load 30 ?_; refine wpList_loadR _ rfl 30 _ rfl N7 (ivs S) hD2.out (by go_simp) 64 3 Tryd.underlying30 (size30L HS64.out) ?_)
          refine HFI.out.mono ?_
          rintro e w8 ⟨v8, rfl, ⟨vd, rfl, ho8⟩, hb8⟩
          obtain ⟨da, dc, rfl⟩ := ho8.shape
          rw [h63] at ho8
          rw [h63]
          have HR8 := hid (HR0.out.step hb8)
          have HO8 := hid ho8
          clear HFI hb8 ho8 HR0
          go_upto_region 16 with fail
          have HM5 := hid (fun v q hv (hq : Below w.heap.size w q) => impl_mirror v D1 X1 q (by omega) hv (HW.out.below hq))
          have HT6 := hid (fun v q hv (hq : Below w.heap.size w q) => impl_transpose v D2 X2 q (by omega) hv (HW.out.below hq))
          have hx3 : ∀ j, j < 3 → (nth [(d, xs), (d, xs), (d, xs)] j).2.length ≤ 1048576 := fun j hj => by
            obtain rfl | rfl | rfl : j = 0 ∨ j = 1 ∨ j = 2 := by omega
            all_goals (show xs.length ≤ 1048576; omega)
          have HSB : Hid (∀ (ao bo : Option Addr) (c c' : Nat) (q : World), BRow q ao [(d, xs), (d, xs), (d, xs)] → BRow q bo [(d, xs), (d, xs), (d, xs)] → Calls Tryd.prog 14 #[.slice ao 3 c, .slice bo 3 c'] q fun e w' => e = .returned (.bool true) ∧ ∃ n, w' = q.drewN n) := hid (fun ao bo c c' q h1 h2 => same_blocks ao bo c c' [(d, xs), (d, xs), (d, xs)] q (by show (3 : Nat) ≤ 1048576; decide) hx3 h1 h2)
          clear hx3
          have HR9 := hid (HR8.out.step ((Below.refl _ _).alloc (Nat.le_refl _) (.cells #[.int .i64 d, .slice da 63 dc] 28)))
          have HB9 := hid (Blk.new w8 [.int .i64 d, .slice da 63 dc] 28)
          have HV9 := hid (HO8.out.alloc (.cells #[.int .i64 d, .slice da 63 dc] 28))
          have hs9 : w8.heap.size < (w8.alloc (.cells #[.int .i64 d, .slice da 63 dc] 28)).heap.size := by simp
          clear HR8 HO8 HMI HTI HST6 C0 C5 C6 HFO HBD hB hD2
          generalize w8.alloc (.cells #[.int .i64 d, .slice da 63 dc] 28) = w9 at *
          refine wp_region_any (by kernel_rfl) ?_
          refine wpAny_inv (fun listed ac wq => ∃ u : Nat → Value, ac = { tmps := #[.slice ao n cap, undef, u 2, .slice (some ⟨b, off, none⟩) L.length lc, .pointer (some ⟨w1.heap.size, 0, none⟩), .pointer (some ⟨N5, 0, none⟩), .pointer (some ⟨N6, 0, none⟩), .pointer (some ⟨N7, 0, none⟩), .int .i64 64, u9, u10, .pointer (some ⟨w8.heap.size, 0, none⟩), .bool true, .slice ao n cap, .bool false, .slice ao n cap, .slice (some ⟨b, off, none⟩) L.length lc, .slice (some ⟨b, off, none⟩) L.length lc, .pointer (some ⟨b, off, none⟩), .agg #[.int .i64 d, .slice a 63 c], u20, u21, u22, u23, .agg (ivs z64).toArray, .int .i64 64, .bool false, u27, u28, u29, u30, u31, u32, u33, u34, u35, u36, u37, u38, u39, u40, u41, u42, u43, u44, u45, u46, u47, u48, u49, u50, u51, u52, u53, u54, u55, u56, u57, u58, u59, u60, u61, u62, u63, u64, u65, u66, u67, u68, u69, u70, u71, u72, .tuple #[.agg #[.int .i64 d, .slice da 63 dc], .bool true], .agg (ivs S).toArray, .tuple #[.agg #[.int .i64 d, .slice da 63 dc], .bool true], .agg #[.int .i64 d, .slice da 63 dc], .bool true, u 78, u 79, u 80, u 81, u 82, u 83, u 84, u 85, u 86, u 87, u 88, u 89, u 90, u 91], defers := [] } ∧ Below w9.heap.size w9 wq ∧ Facts 15 (VL d xs (.agg #[.int .i64 d, .slice da 63 dc]) (.agg #[.int .i64 D1, .slice ya 63 yc]) (.agg #[.int .i64 D2, .slice za 63 zc']) (.agg #[.int .i64 d, .slice a 63 c])) DL listed u wq) ?hpre ?hstep ?hend _ _ _ _ (by decide) (by decide) (fun j oj _ h => by exfalso; revert h; simp [Array.getD]) ?hinit
          case hinit => exact ⟨upd (upd (upd (upd (upd (upd (upd (upd (upd (upd (upd (upd (upd (upd (upd (fun _ => undef) 78 u78) 79 u79) 80 u80) 81 u81) 82 u82) 83 u83) 84 u84) 85 u85) 86 u86) 87 u87) 88 u88) 89 u89) 90 u90) 91 u91) 2 u2, rfl, belowN (Below.refl _ _) 1, fun j hj h => by exfalso; revert h; simp [Array.getD]⟩
          case hpre => exact pre_of (by kernel_rfl)
          case hend =>
            rintro listed ac wq hall ⟨u, rfl, he, hF⟩
            have e2 : u 2 = .bool true := hF 14 (by decide) (hall 14 (by decide))
            have HBE := hid (HR9.out.step he).1
            go_wp2_with fail
            go_ret
            exact ⟨by rw [e2]; rfl, HBE.out⟩
          case hstep =>
            rintro listed ac wq i o hszl ⟨u, rfl, he, hF⟩ ho hall hun hcl
            have hin : i < 15 := (Array.getElem?_eq_some_iff.1 ho).1
            have HRQ := hid (HR9.out.step he)
            have p0 := HRQ.out.2.1.cell (i := 0) rfl
            have p1 := HRQ.out.2.1.cell (i := 1) rfl
            have p2 := HRQ.out.2.2.1.cell (i := 0) rfl
            have p3 := HRQ.out.2.2.1.cell (i := 1) rfl
            have p4 := HRQ.out.2.2.2.1.cell (i := 0) rfl
            have p5 := HRQ.out.2.2.2.1.cell (i := 1) rfl
            have hBQ := HB9.out.below he hs9
            have p6 := hBQ.cell (i := 0) rfl
            have p7 := hBQ.cell (i := 1) rfl
            have HVB := hid (view63 (HV9.out.below he) h63)
            have ST : Hid (∀ (wz : World) (v : Value), Below wq.heap.size wq wz → VL d xs (.agg #[.int .i64 d, .slice da 63 dc]) (.agg #[.int .i64 D1, .slice ya 63 yc]) (.agg #[.int .i64 D2, .slice za 63 zc']) (.agg #[.int .i64 d, .slice a 63 c]) i v wz → Below w9.heap.size w9 wz ∧ Facts 15 (VL d xs (.agg #[.int .i64 d, .slice da 63 dc]) (.agg #[.int .i64 D1, .slice ya 63 yc]) (.agg #[.int .i64 D2, .slice za 63 zc']) (.agg #[.int .i64 d, .slice a 63 c])) DL (listed.setIfInBounds i true) (upd u (DL i) v) wz) := fun wz v hez hv => ⟨he.trans (hez.mono he.size), hF.step i v (fun j hj hne _ => DL_ne ⟨i, hin⟩ ⟨j, hj⟩ (fun e => hne (congrArg Fin.val e).symm)) (fun j x hj h => VL.below hez j hj _ h) hv⟩
            obtain rfl | rfl | rfl | rfl | rfl | rfl | rfl | rfl | rfl | rfl | rfl | rfl | rfl | rfl | rfl : i = 0 ∨ i = 1 ∨ i = 2 ∨ i = 3 ∨ i = 4 ∨ i = 5 ∨ i = 6 ∨ i = 7 ∨ i = 8 ∨ i = 9 ∨ i = 10 ∨ i = 11 ∨ i = 12 ∨ i = 13 ∨ i = 14 := by omega
            · cases ho
              refine wpOp_step rfl (fun K hK => ?_)
              go_simp
              refine hK _ _ ⟨upd u 78 (.bool true), ?_, ST.out _ _ (Below.refl _ _) rfl⟩
              simp [upd]
            · cases ho
              have f0 : u 78 = .bool true := hF 0 (by decide) (hall ⟨0, .data⟩ (by simp) rfl)
              refine wpOp_step rfl (fun K hK => ?_)
              simp only [f0]
              go_simp
              refine hK _ _ ⟨upd u 79 (.bool true), ?_, ST.out _ _ (Below.refl _ _) rfl⟩
              simp [upd, f0]
            · cases ho
              have f1 : u 79 = .bool true := hF 1 (by decide) (hall ⟨1, .guard⟩ (by simp) rfl)
              refine wpOp_step rfl (fun K hK => ?_)
              simp only [f1]
              refine wanted_if rfl ?_
              go_simp
              refine hK _ _ ⟨upd u 80 (.agg #[.int .i64 d, .slice da 63 dc]), ?_, ST.out _ _ (Below.refl _ _) rfl⟩
              simp [upd, f1]
            · cases ho
              have f1 : u 79 = .bool true := hF 1 (by decide) (hall ⟨1, .guard⟩ (by simp) rfl)
              refine wpOp_step rfl (fun K hK => ?_)
              simp only [f1]
              refine wanted_if rfl ?_
              go_simp
              refine hK _ _ ⟨upd u 81 (.agg #[.int .i64 D1, .slice ya 63 yc]), ?_, ST.out _ _ (Below.refl _ _) rfl⟩
              simp [upd, f1]
            · cases ho
              have f3 : u 81 = .agg #[.int .i64 D1, .slice ya 63 yc] := hF 3 (by decide) (hall ⟨3, .data⟩ (by simp) rfl)
              have f1 : u 79 = .bool true := hF 1 (by decide) (hall ⟨1, .guard⟩ (by simp) rfl)
              refine wpOp_step rfl (fun K hK => ?_)
              simp only [f1, f3]
              refine wanted_if rfl ?_
              go_simp
              go_wp2_with (go_at_call 10; refine (HM5.out _ _ ⟨ya, yc, by rw [hl5], by rw [hl5]; exact HRQ.out.2.2.2.2.2.1⟩ HRQ.out.1).mono ?_; rintro e wz ⟨v, rfl, ⟨va, rfl, hO⟩, hbz⟩; rw [K5.out.1]; obtain ⟨oo, oc, rfl⟩ := hO.shape; rw [K5.out.2, h63]; obtain ⟨a2, c2, e2, v2⟩ := hO.view; have e3 : oo = a2 := (by injection e2); subst e3; rw [K5.out.2, h63] at v2)
              first | refine hK _ _ ⟨upd u 82 (.agg #[.int .i64 d, .slice oo 63 oc]), ?_, ST.out _ _ hbz ⟨oo, oc, rfl, v2⟩⟩ | refine ⟨upd u 82 (.agg #[.int .i64 d, .slice oo 63 oc]), ?_, ST.out _ _ hbz ⟨oo, oc, rfl, v2⟩⟩
              simp [upd, f1, f3]
            · cases ho
              have f1 : u 79 = .bool true := hF 1 (by decide) (hall ⟨1, .guard⟩ (by simp) rfl)
              refine wpOp_step rfl (fun K hK => ?_)
              simp only [f1]
              refine wanted_if rfl ?_
              go_simp
              refine hK _ _ ⟨upd u 83 (.agg #[.int .i64 D2, .slice za 63 zc']), ?_, ST.out _ _ (Below.refl _ _) rfl⟩
              simp [upd, f1]
            · cases ho
              have f5 : u 83 = .agg #[.int .i64 D2, .slice za 63 zc'] := hF 5 (by decide) (hall ⟨5, .data⟩ (by simp) rfl)
              have f1 : u 79 = .bool true := hF 1 (by decide) (hall ⟨1, .guard⟩ (by simp) rfl)
              refine wpOp_step rfl (fun K hK => ?_)
              simp only [f1, f5]
              refine wanted_if rfl ?_
              go_simp
              go_wp2_with (go_at_call 11; refine (HT6.out _ _ ⟨za, zc', by rw [hl6], by rw [hl6]; exact HRQ.out.2.2.2.2.2.2⟩ HRQ.out.1).mono ?_; rintro e wz ⟨v, rfl, ⟨va, rfl, hO⟩, hbz⟩; rw [K6.out.1]; obtain ⟨oo, oc, rfl⟩ := hO.shape; rw [K6.out.2, h63]; obtain ⟨a2, c2, e2, v2⟩ := hO.view; have e3 : oo = a2 := (by injection e2); subst e3; rw [K6.out.2, h63] at v2)
              first | refine hK _ _ ⟨upd u 84 (.agg #[.int .i64 d, .slice oo 63 oc]), ?_, ST.out _ _ hbz ⟨oo, oc, rfl, v2⟩⟩ | refine ⟨upd u 84 (.agg #[.int .i64 d, .slice oo 63 oc]), ?_, ST.out _ _ hbz ⟨oo, oc, rfl, v2⟩⟩
              simp [upd, f1, f5]
            · cases ho
              have f2 : u 80 = .agg #[.int .i64 d, .slice da 63 dc] := hF 2 (by decide) (hall ⟨2, .data⟩ (by simp) rfl)
              obtain ⟨a4, c4, f4, v4⟩ : ∃ a c, u 82 = .agg #[.int .i64 d, .slice a 63 c] ∧ View .i64 wq a 63 xs := hF 4 (by decide) (hall ⟨4, .data⟩ (by simp) rfl)
              obtain ⟨a6, c6, f6, v6⟩ : ∃ a c, u 84 = .agg #[.int .i64 d, .slice a 63 c] ∧ View .i64 wq a 63 xs := hF 6 (by decide) (hall ⟨6, .data⟩ (by simp) rfl)
              have f1 : u 79 = .bool true := hF 1 (by decide) (hall ⟨1, .guard⟩ (by simp) rfl)
              refine wpOp_step rfl (fun K hK => ?_)
              simp only [f1, f2, f4, f6]
              refine wanted_if rfl ?_
              go_simp
              refine hK _ _ ⟨upd u 85 (.slice (some ⟨wq.heap.size, 0, none⟩) 3 3), ?_, ST.out _ _ ((Below.refl _ _).alloc (Nat.le_refl _) _) ⟨_, _, rfl, brow3 wq d xs h63 da a4 a6 dc c4 c6 HVB.out v4 v6⟩⟩
              simp [upd, f1, f2, f4, f6]
            · cases ho
              have f1 : u 79 = .bool true := hF 1 (by decide) (hall ⟨1, .guard⟩ (by simp) rfl)
              refine wpOp_step rfl (fun K hK => ?_)
              simp only [f1]
              refine wanted_if rfl ?_
              go_simp
              refine hK _ _ ⟨upd u 86 (.agg #[.int .i64 d, .slice a 63 c]), ?_, ST.out _ _ (Below.refl _ _) rfl⟩
              simp [upd, f1]
            · cases ho
              have f1 : u 79 = .bool true := hF 1 (by decide) (hall ⟨1, .guard⟩ (by simp) rfl)
              refine wpOp_step rfl (fun K hK => ?_)
              simp only [f1]
              refine wanted_if rfl ?_
              go_simp
              refine hK _ _ ⟨upd u 87 (.agg #[.int .i64 d, .slice a 63 c]), ?_, ST.out _ _ (Below.refl _ _) rfl⟩
              simp [upd, f1]
            · cases ho
              have f1 : u 79 = .bool true := hF 1 (by decide) (hall ⟨1, .guard⟩ (by simp) rfl)
              refine wpOp_step rfl (fun K hK => ?_)
              simp only [f1]
              refine wanted_if rfl ?_
              go_simp
              refine hK _ _ ⟨upd u 88 (.agg #[.int .i64 d, .slice a 63 c]), ?_, ST.out _ _ (Below.refl _ _) rfl⟩
              simp [upd, f1]
            · cases ho
              have f8 : u 86 = .agg #[.int .i64 d, .slice a 63 c] := hF 8 (by decide) (hall ⟨8, .data⟩ (by simp) rfl)
              have f9 : u 87 = .agg #[.int .i64 d, .slice a 63 c] := hF 9 (by decide) (hall ⟨9, .data⟩ (by simp) rfl)
              have f10 : u 88 = .agg #[.int .i64 d, .slice a 63 c] := hF 10 (by decide) (hall ⟨10, .data⟩ (by simp) rfl)
              have f1 : u 79 = .bool true := hF 1 (by decide) (hall ⟨1, .guard⟩ (by simp) rfl)
              refine wpOp_step rfl (fun K hK => ?_)
              simp only [f1, f8, f9, f10]
              refine wanted_if rfl ?_
              go_simp
              refine hK _ _ ⟨upd u 89 (.slice (some ⟨wq.heap.size, 0, none⟩) 3 3), ?_, ST.out _ _ ((Below.refl _ _).alloc (Nat.le_refl _) _) ⟨_, _, rfl, brow3 wq d xs h63 a a a c c c HRQ.out.2.2.2.2.1 HRQ.out.2.2.2.2.1 HRQ.out.2.2.2.2.1⟩⟩
              simp [upd, f1, f8, f9, f10]
            · cases ho
              obtain ⟨a7, c7, f7, v7⟩ : ∃ a c, u 85 = .slice a 3 c ∧ BRow wq a [(d, xs), (d, xs), (d, xs)] := hF 7 (by decide) (hall ⟨7, .data⟩ (by simp) rfl)
              obtain ⟨a11, c11, f11, v11⟩ : ∃ a c, u 89 = .slice a 3 c ∧ BRow wq a [(d, xs), (d, xs), (d, xs)] := hF 11 (by decide) (hall ⟨11, .data⟩ (by simp) rfl)
              have f1 : u 79 = .bool true := hF 1 (by decide) (hall ⟨1, .guard⟩ (by simp) rfl)
              refine wpOp_step rfl (fun K hK => ?_)
              simp only [f1, f7, f11]
              refine wanted_if rfl ?_
              go_simp
              go_wp2_with (go_at_call 14; refine (HSB.out _ _ _ _ _ v7 v11).mono ?_; rintro e wz ⟨rfl, nq, rfl⟩)
              first | refine hK _ _ ⟨upd u 90 (.bool true), ?_, ST.out _ _ (belowN (Below.refl _ _) nq) rfl⟩ | refine ⟨upd u 90 (.bool true), ?_, ST.out _ _ (belowN (Below.refl _ _) nq) rfl⟩
              simp [upd, f1, f7, f11]
            · cases ho
              have f1 : u 79 = .bool true := hF 1 (by decide) (hall ⟨1, .data⟩ (by simp) rfl)
              have f12 : u 90 = .bool true := hF 12 (by decide) (hall ⟨12, .data⟩ (by simp) rfl)
              refine wpOp_step rfl (fun K hK => ?_)
              simp only [f1, f12]
              go_simp
              refine hK _ _ ⟨upd u 91 (.bool true), ?_, ST.out _ _ (Below.refl _ _) rfl⟩
              simp [upd, f1, f12]
            · cases ho
              have f13 : u 91 = .bool true := hF 13 (by decide) (hall ⟨13, .data⟩ (by simp) rfl)
              refine wpOp_step rfl (fun K hK => ?_)
              simp only [f13]
              go_simp
              refine hK _ _ ⟨upd u 2 (.bool true), ?_, ST.out _ _ (Below.refl _ _) rfl⟩
              simp [upd, f13]
end Go.Proofs.YtcodmkampihphaaDoor
