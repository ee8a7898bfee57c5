/- Contracts of markIntS and heldIntS; slices by what they read as. -/
import Derived.Test.YtckpdmgmeolepaaMark
import Derived.Test.YtckpdmgmeolepaaBl
namespace Go.Proofs.Ytckpdmgmeolepaa
open Go.RowKit
set_option linter.unusedVariables false

theorem Own.ef {w w' : World} {base C : Nat} {e : TypeId} {k : IntKind} {v : Value} {xs : List Int} (h : Own w base e k v xs) (he : Ef C w w') (hC : C < base) : Own w' base e k v xs := by
  refine ⟨Nat.le_trans h.1 he.size, h.2.1, ?_⟩
  rcases h.2.2 with h0 | ⟨g, cap, cur, hv, hg, hh, r⟩
  · exact .inl h0
  · exact .inr ⟨g, cap, cur, hv, hg, (he.block g (Array.getElem?_eq_some_iff.1 hh).1 (fun e => by have := Option.some.inj e; omega)).trans hh, r⟩
/-- Only the row of v may have turned. -/
def Tur (v : Value) (w w' : World) : Prop := w' = w ∨ ∃ g n c, v = .slice (some ⟨g, 0, none⟩) n c ∧ Ef g w w'
theorem Tur.below {v : Value} {w w' : World} {B : Nat} (h : Tur v w w') (hB : ∀ (a : Addr) n c, v = .slice (some a) n c → B ≤ a.block) (hs : B ≤ w.heap.size) : Below B w w' := by
  rcases h with rfl | ⟨g, n, c, e, he⟩
  · exact Below.refl _ _
  · exact he.below (hB _ _ _ e) hs
theorem Tur.own {v u : Value} {w w' : World} {B : Nat} {xs : List Int} (h : Tur v w w') (ho : Own w B 3 .i64 u xs) (hB : ∀ (a : Addr) n c, v = .slice (some a) n c → a.block < B) : Own w' B 3 .i64 u xs := by
  rcases h with rfl | ⟨g, n, c, e, he⟩
  · exact ho
  · exact ho.ef he (hB _ _ _ e)

set_option maxHeartbeats 800000 in
/-- The marks are written into the slice, and nowhere else. -/
theorem mark_any (base : Nat) (v : Value) (ys : List Int) (w : World) (hn : ys.length ≤ 1000000000) (ho : Own w base 3 .i64 v ys) :
    Calls Try.prog 18 #[v, .int .i64 1] w fun e w' => e = .returned (.int .i64 ((ys.length : Int) + 1)) ∧ Own w' base 3 .i64 v (marks ys.length) ∧ Tur v w w' := by
  rcases ho.2.2 with ⟨rfl, h0⟩ | ⟨g, cap, cur, rfl, _⟩
  · have e : ys = [] := List.length_eq_zero_iff.1 h0
    subst e
    have HO := hid ho
    clear ho
    go_enter Try.func18, Try.ntmps18
    go_wp2
    go_loop [1, 5] (fun m i => m = .int .i64 1 ∧ i = .int .i64 0) (fun _ _ => 0)
    case atStart => exact ⟨rfl, rfl⟩
    case round =>
      obtain ⟨rfl, rfl⟩ := hrel
      go_wp2
      go_ret
      exact ⟨rfl, HO.out, .inl rfl⟩
  · have HO := hid ho
    have hge := ho.ge.1
    generalize hN : ys.length = n at *
    have HN := hid hN
    clear ho hN
    go_enter Try.func18, Try.ntmps18
    go_wp2
    go_loopw [1, 5] (fun m i wr => ∃ (k : Nat) (zs : List Int), k ≤ n ∧ i = .int .i64 k ∧ m = .int .i64 ((k : Int) + 1) ∧ Own wr base 3 .i64 (.slice (some ⟨g, 0, none⟩) n cap) zs ∧ Hid (zs.length = n ∧ ∀ j, j < k → zs.getD j 0 = (j : Int) + 1) ∧ Ef g w wr) (fun _ i _ => n - (intOf i).toNat)
    case atStart => exact ⟨0, ys, by omega, rfl, rfl, HO.out, ⟨HN.out, fun j hj => by omega⟩, Ef.refl _ _⟩
    case round =>
      obtain ⟨k, zs, hk, rfl, rfl, hown, hzs, hb⟩ := hrel
      by_cases hlt : k < n
      · have hold := hown.at k (by have := hzs.out.1; omega)
        have hfree := hown.free k
        have HNEW := hid (hown.store k ((k : Int) + 1))
        generalize zs.getD k 0 = Y at *
        go_wp2
        go_roundw
        case rel =>
          refine ⟨k + 1, _, by omega, by go_num, by go_num, HNEW.out, ⟨by simp; exact hzs.out.1, fun j hj => ?_⟩, hb.trans (Ef.set _ k _)⟩
          by_cases e : j = k
          · subst e
            simp [List.getD, hzs.out.1, hlt]
          · rw [← hzs.out.2 j (by omega)]
            simp [List.getD, show k ≠ j from fun h => e h.symm]
        case measure => simp [intOf]; omega
      · obtain rfl : k = n := by omega
        have hxy : zs = marks k := list_eq_of_getD (by rw [hzs.out.1, marks_length]) (fun i hi => by rw [hzs.out.2 i (by rw [← hzs.out.1]; exact hi), marks_get k i (by rw [← hzs.out.1]; exact hi)])
        subst hxy
        go_wp2
        go_ret
        exact ⟨rfl, hown, .inr ⟨g, _, _, rfl, hb⟩⟩

set_option maxHeartbeats 800000 in
theorem held_any (ao : Option Addr) (n cap : Nat) (w : World) (hn : n ≤ 1000000000) (hv : View .i64 w ao n (marks n)) :
    Calls Try.prog 19 #[.slice ao n cap, .int .i64 1] w fun e w' => e = .returned (.int .i64 ((n : Int) + 1)) ∧ w = w' := by
  have HV := hid hv
  clear hv
  go_enter Try.func19, Try.ntmps19
  go_wp2
  go_loop [1, 5] (fun m i => ∃ k : Nat, k ≤ n ∧ i = .int .i64 k ∧ m = .int .i64 ((k : Int) + 1)) (fun _ i => n - (intOf i).toNat)
  case atStart => exact ⟨0, by omega, rfl, rfl⟩
  case round =>
    obtain ⟨k, hk, rfl, rfl⟩ := hrel
    by_cases hlt : k < n
    · obtain ⟨b, off, rfl, hc⟩ := HV.out.2 k hlt
      rw [marks_get n k hlt] at hc
      go_wp2
      go_round
      case rel => exact ⟨k + 1, by omega, by go_num, by go_num⟩
      case measure => simp [intOf]; omega
    · obtain rfl : k = n := by omega
      go_wp2
      go_ret
      exact ⟨rfl, rfl⟩

/-- A slice that reads as xs. -/
def Vw (w : World) (v : Value) (xs : List Int) : Prop := ∃ ao cap, v = .slice ao xs.length cap ∧ View .i64 w ao xs.length xs ∧ xs.length ≤ cap
theorem Own.vw {w : World} {base : Nat} {v : Value} {xs : List Int} (h : Own w base 3 .i64 v xs) : Vw w v xs := by
  obtain ⟨ao, cap, e, hv⟩ := h.view
  refine ⟨ao, cap, e, hv, ?_⟩
  rcases h.2.2 with ⟨e2, h0⟩ | ⟨g, cap', cur, e2, _, _, hc, _⟩
  · omega
  · rw [e] at e2
    cases e2
    exact hc
theorem Vw.below {w w' : World} {B : Nat} {v : Value} {xs : List Int} (h : Vw w v xs) (hB : w.heap.size ≤ B) (hb : Below B w w') : Vw w' v xs := by
  obtain ⟨ao, cap, e, hv, hc⟩ := h
  exact ⟨ao, cap, e, hv.below hB hb, hc⟩
theorem toInts_v (v : Value) (xs : List Int) (w : World) (hl : xs.length ≤ 1048576) (h : Vw w v xs) :
    Calls Try.prog 21 #[v] w fun e w' => ∃ v', e = .returned v' ∧ Own w' w.heap.size 3 .i64 v' xs ∧ Below w.heap.size w w' := by
  obtain ⟨ao, c, rfl, hv, hc⟩ := h
  exact toInts ao xs.length c xs w hl hv
theorem eq_own (v u : Value) (xs : List Int) (w : World) (hl : xs.length ≤ 1048576) (h1 : Vw w v xs) (h2 : Vw w u xs) :
    Calls Try.prog 17 #[v, u] w fun e w' => e = .returned (.bool true) ∧ Below w.heap.size w w' := by
  obtain ⟨ao, c, rfl, hv, _⟩ := h1
  obtain ⟨bo, c', rfl, hu, _⟩ := h2
  exact eqInts_same ao bo xs.length c c' xs w (by omega) hv hu
theorem held_own (v : Value) (n : Nat) (w : World) (hn : n ≤ 1000000000) (h : Vw w v (marks n)) :
    Calls Try.prog 19 #[v, .int .i64 1] w fun e w' => e = .returned (.int .i64 ((n : Int) + 1)) ∧ w = w' := by
  obtain ⟨ao, c, rfl, hv, hc⟩ := h
  rw [marks_length] at hv ⊢
  exact held_any ao n c w hn hv
end Go.Proofs.Ytckpdmgmeolepaa
