/- Marks of numbers and of blocks. -/
import Derived.Test.YtcodmkampihphaaDoorSl
namespace Go.Proofs.YtcodmkampihphaaDoor
open Go.RowKit
set_option linter.unusedVariables false

/-- Nothing but block B has turned. -/
def Only (B : Nat) (w w' : World) : Prop := w'.os = w.os ∧ w'.tape = w.tape ∧ w'.output = w.output ∧ w'.heap.size = w.heap.size ∧ ∀ k, k ≠ B → w'.heap[k]? = w.heap[k]?
theorem Only.refl (B : Nat) (w : World) : Only B w w := ⟨rfl, rfl, rfl, rfl, fun _ _ => rfl⟩
theorem Only.trans {B : Nat} {a b c : World} (h : Only B a b) (k : Only B b c) : Only B a c :=
  ⟨k.1.trans h.1, k.2.1.trans h.2.1, k.2.2.1.trans h.2.2.1, k.2.2.2.1.trans h.2.2.2.1, fun i hi => (k.2.2.2.2 i hi).trans (h.2.2.2.2 i hi)⟩
theorem Only.setCell {B : Nat} {a w : World} (h : Only B a w) (j : Nat) (u : Value) : Only B a (w.setCell ⟨B, j, none⟩ u) :=
  h.trans ⟨rfl, rfl, rfl, by simp [World.setCell], fun k hk => Below.heap_setCell _ _ _ _ hk⟩
theorem Only.drew {B : Nat} {a w : World} (h : Only B a w) : Only B a w.drew := h
theorem Only.drewN {B : Nat} {a w : World} (h : Only B a w) (n : Nat) : Only B a (w.drewN n) := h
theorem Only.below {B : Nat} {w w' : World} (h : Only B w w') : Below B w w' := ⟨h.1, h.2.1, h.2.2.1, by rw [h.2.2.2.1]; exact Nat.le_refl _, fun k hk => h.2.2.2.2 k (by omega)⟩

/-- The marks s, s + 1, .. -/
def mks (s : Int) (n : Nat) : List Int := (List.range n).map fun (i : Nat) => s + (i : Int)
theorem mks_length (s : Int) (n : Nat) : (mks s n).length = n := by simp [mks]
theorem mks_get (s : Int) (n j : Nat) (h : j < n) : (mks s n).getD j 0 = s + (j : Int) := by simp [mks, List.getD, h]

/-- Nothing has turned but the row of v. -/
def Touch (v : Value) (w w' : World) : Prop := w'.os = w.os ∧ w'.tape = w.tape ∧ w'.output = w.output ∧ w'.heap.size = w.heap.size ∧ ∀ k, v.ownBlock ≠ some k → w'.heap[k]? = w.heap[k]?
theorem Touch.ofOnly {g n c : Nat} {w w' : World} (h : Only g w w') : Touch (.slice (some ⟨g, 0, none⟩) n c) w w' := ⟨h.1, h.2.1, h.2.2.1, h.2.2.2.1, fun k hk => h.2.2.2.2 k (fun e => hk (by simp [Value.ownBlock, e]))⟩
theorem Touch.refl (v : Value) (w : World) : Touch v w w := ⟨rfl, rfl, rfl, rfl, fun _ _ => rfl⟩
theorem Touch.below {v : Value} {w w' : World} {B : Nat} (h : Touch v w w') (hb : ∀ k, v.ownBlock = some k → B ≤ k) : Below B w w' :=
  ⟨h.1, h.2.1, h.2.2.1, by rw [h.2.2.2.1]; exact Nat.le_refl _, fun k hk => h.2.2.2.2 k (fun e => by have := hb k e; omega)⟩

set_option maxHeartbeats 800000 in
theorem mark_s (base : Nat) (v : Value) (ys : List Int) (s : Int) (w : World) (hn : ys.length ≤ 1000000000) (h0 : 0 ≤ s) (h1 : s ≤ 1000000000) (ho : Own w base 3 .i64 v ys) :
    Calls Tryd.prog 41 #[v, .int .i64 s] w fun e w' => e = .returned (.int .i64 (s + ys.length)) ∧ Own w' base 3 .i64 v (mks s ys.length) ∧ Touch v w w' := by
  rcases ho.2.2 with ⟨rfl, hz⟩ | ⟨g, cap, cur, rfl, _⟩
  · have e : ys = [] := List.length_eq_zero_iff.1 hz
    subst e
    have HO := hid ho
    clear ho
    go_enter Tryd.func41, Tryd.ntmps41
    go_wp2
    go_loop [1, 5] (fun m i => m = .int .i64 s ∧ i = .int .i64 0) (fun _ _ => 0)
    case atStart => exact ⟨rfl, rfl⟩
    case round =>
      obtain ⟨rfl, rfl⟩ := hrel
      go_wp2
      go_ret
      exact ⟨ret_int (by simp), HO.out, Touch.refl _ _⟩
  · have HO := hid ho
    generalize hN : ys.length = n at *
    have HN := hid hN
    clear ho hN
    go_enter Tryd.func41, Tryd.ntmps41
    go_wp2
    go_loopw [1, 5] (fun m2 i wr => ∃ (k : Nat) (zs : List Int), k ≤ n ∧ i = .int .i64 k ∧ m2 = .int .i64 (s + (k : Int)) ∧ Hid (zs.length = n ∧ ∀ j, j < k → zs.getD j 0 = s + (j : Int)) ∧ Own wr base 3 .i64 (.slice (some ⟨g, 0, none⟩) n cap) zs ∧ Hid (Only g w wr)) (fun _ i _ => n - (intOf i).toNat)
    case atStart => exact ⟨0, ys, by omega, rfl, by simp, ⟨HN.out, fun j hj => by omega⟩, HO.out, Only.refl _ _⟩
    case round =>
      obtain ⟨k, zs, hk, rfl, rfl, hzs, hown, hb⟩ := hrel
      by_cases hlt : k < n
      · have hold := hown.at k (by have := hzs.out.1; omega)
        have hfree := hown.free k
        have HNEW := hid (hown.store k (s + (k : Int)))
        generalize zs.getD k 0 = Y at *
        go_wp2
        go_roundw
        case rel =>
          refine ⟨k + 1, _, by omega, by go_num, by go_num, ⟨by simp; exact hzs.out.1, fun j hj => ?_⟩, HNEW.out, hb.out.setCell k _⟩
          by_cases e : j = k
          · subst e
            simp [List.getD, hzs.out.1, hlt]
          · rw [← hzs.out.2 j (by omega)]
            simp [List.getD, show k ≠ j from fun h => e h.symm]
        case measure => simp [intOf]; omega
      · obtain rfl : k = n := by omega
        have hxy : zs = mks s k := list_eq_of_getD (by rw [hzs.out.1, mks_length]) (fun i hi => by rw [hzs.out.2 i (by rw [← hzs.out.1]; exact hi), mks_get s k i (by rw [← hzs.out.1]; exact hi)])
        subst hxy
        go_wp2
        go_ret
        exact ⟨rfl, hown, Touch.ofOnly hb.out⟩

set_option maxHeartbeats 800000 in
theorem held_s (ao : Option Addr) (n cap : Nat) (s : Int) (w : World) (hn : n ≤ 1000000000) (h0 : 0 ≤ s) (h1 : s ≤ 1000000000) (hv : View .i64 w ao n (mks s n)) :
    Calls Tryd.prog 42 #[.slice ao n cap, .int .i64 s] w fun e w' => e = .returned (.int .i64 (s + (n : Int))) ∧ w = w' := by
  have HV := hid hv
  clear hv
  go_enter Tryd.func42, Tryd.ntmps42
  go_wp2
  go_loop [1, 5] (fun m i => ∃ k : Nat, k ≤ n ∧ i = .int .i64 k ∧ m = .int .i64 (s + (k : Int))) (fun _ i => n - (intOf i).toNat)
  case atStart => exact ⟨0, by omega, rfl, by simp⟩
  case round =>
    obtain ⟨k, hk, rfl, rfl⟩ := hrel
    by_cases hlt : k < n
    · obtain ⟨b, off, rfl, hc⟩ := HV.out.2 k hlt
      rw [mks_get s n k hlt] at hc
      go_wp2
      go_round
      case rel => exact ⟨k + 1, by omega, by go_num, by go_num⟩
      case measure => simp [intOf]; omega
    · obtain rfl : k = n := by omega
      go_wp2
      go_ret
      exact ⟨rfl, rfl⟩

set_option maxHeartbeats 800000 in
/-- The marks of a block, and what they leave. -/
theorem markBlock2 (base : Nat) (d : Int) (va : Value) (xs : List Int) (w : World) (h0 : xs.length ≤ 1048576) (hv : Own w base 3 .i64 va xs) :
    Calls Tryd.prog 21 #[.agg #[.int .i64 d, va], .int .i64 1] w fun e w' => e = .returned (.int .i64 (1 + (xs.length : Int))) ∧ Own w' base 3 .i64 va (mks 1 xs.length) ∧ (∀ m, va.ownBlock ≠ some m → m < w.heap.size → w'.heap[m]? = w.heap[m]?) ∧ Below base w w' := by
  obtain ⟨ao, ac, rfl⟩ := hv.shape
  have hb := hv.1
  have HB0 := hid ((Below.refl w.heap.size w).alloc (Nat.le_refl _) (.cells #[.int .i64 d, .slice ao xs.length ac] 28))
  have HM := hid (mark_s base _ xs 1 _ (by omega) (by decide) (by decide) (hv.below HB0.out))
  have HBK := hid (fun m e => (hv.2.lt m e).1)
  clear hv
  go_enter Tryd.func21, Tryd.ntmps21
  go_wp2_with fail
  refine HM.out.mono ?_
  generalize w.alloc (.cells #[.int .i64 d, .slice ao xs.length ac] 28) = wa at *
  rintro e w1 ⟨rfl, ho, ht⟩
  have HO1 := hid ho
  have HB1 := hid ((HB0.out.mono hb).trans (ht.below HBK.out))
  have HQ := hid (fun m (h1 : (Value.slice ao xs.length ac).ownBlock ≠ some m) (h2 : m < w.heap.size) => (ht.2.2.2.2 m h1).trans (HB0.out.block m h2))
  clear ht ho
  go_wp2
  go_ret
  exact ⟨rfl, HO1.out, HQ.out, HB1.out⟩

set_option maxHeartbeats 800000 in
theorem heldBlock (d : Int) (v : Value) (n : Nat) (w : World) (hn : n ≤ 1048576) (hv : ∃ ao c, v = .slice ao n c ∧ View .i64 w ao n (mks 1 n)) :
    Calls Tryd.prog 22 #[.agg #[.int .i64 d, v], .int .i64 1] w fun e w' => e = .returned (.int .i64 (1 + (n : Int))) ∧ Below w.heap.size w w' := by
  obtain ⟨ao, ac, rfl, hvw⟩ := hv
  have HB0 := hid ((Below.refl w.heap.size w).alloc (Nat.le_refl _) (.cells #[.int .i64 d, .slice ao n ac] 28))
  have HM := hid (held_s ao n ac 1 _ (by omega) (by decide) (by decide) (hvw.below (Nat.le_refl _) HB0.out))
  clear hvw
  have hpos : ¬ (1 + (n : Int) < 0) := by omega
  go_enter Tryd.func22, Tryd.ntmps22
  go_wp2_with fail
  refine HM.out.mono ?_
  generalize w.alloc (.cells #[.int .i64 d, .slice ao n ac] 28) = wa at *
  rintro e w1 ⟨rfl, rfl⟩
  go_wp2
  go_ret
  exact ⟨rfl, HB0.out⟩

/-- Own numbers whose row has not turned. -/
theorem Own.keptAt {w w' : World} {base : Nat} {v : Value} {xs : List Int} (h : Own w base 3 .i64 v xs) (hq : ∀ m, v.ownBlock = some m → w'.heap[m]? = w.heap[m]?) (hz : w.heap.size ≤ w'.heap.size) : Own w' base 3 .i64 v xs := by
  refine ⟨Nat.le_trans h.1 hz, h.2.1, ?_⟩
  rcases h.2.2 with h0 | ⟨g, cap, cur, hv, hg, hh, r⟩
  · exact .inl h0
  · exact .inr ⟨g, cap, cur, hv, hg, (hq g (by rw [hv]; rfl)).trans hh, r⟩

end Go.Proofs.YtcodmkampihphaaDoor
