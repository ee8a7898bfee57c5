/- Contracts of the law's functions over slices of ints: toIntS, eqIntS, markIntS. -/
import Derived.Test.YtlphojlccecnhabFr
namespace Go.Proofs.Ytlphojlccecnhab
open Go.RowKit
set_option linter.unusedVariables false

set_option maxHeartbeats 800000 in
theorem toInts (ao : Option Addr) (n cap : Nat) (xs : List Int) (w : World) (hn : n ≤ 1048576) (hv : View .i64 w ao n xs) :
    Calls Try.prog 14 #[.slice ao n cap] w fun e w' => ∃ v, e = .returned v ∧ Own w' w.heap.size 3 .i64 v xs ∧ Below w.heap.size w w' := by
  have HV := show Hid _ from hv
  clear hv
  go_enter Try.func14, Try.ntmps14
  go_wp2_with (at_make; refine wpList_mkn w rfl _ _ 35 rfl w.heap.size 3 .i64 8 Try.underlying35 Try.info3 _ _ n rfl rfl (by omega) (by decide) (Nat.le_refl _) ?_)
  intro w0 hown0 hb0
  go_wp2
  go_loopw [4] (fun i wr => ∃ (k : Nat) (ys : List Int), k ≤ n ∧ i = .int .i64 k ∧ Own wr w.heap.size 3 .i64 (.slice (some ⟨w.heap.size, 0, none⟩) n n) ys ∧ Hid (ys.length = n ∧ ∀ j, j < k → ys.getD j 0 = xs.getD j 0) ∧ Below w.heap.size w wr) (fun i _ => n - (intOf i).toNat)
  case atStart => exact ⟨0, _, by omega, rfl, hown0, ⟨by simp, fun j hj => by omega⟩, hb0⟩
  case round =>
    obtain ⟨k, ys, hk, rfl, hown, hys, hb⟩ := hrel
    clear hown0 hb0
    by_cases hlt : k < n
    · obtain ⟨b, off, rfl, hc⟩ := HV.out.2 k hlt
      have hcr : wr.cell? ⟨b, off + k, none⟩ = some (.int .i64 (xs.getD k 0)) := (hb.cell (p := ⟨b, off + k, none⟩) (World.block_lt_of_cell? w _ hc)).trans hc
      have hold := hown.at k (by have := hys.out.1; omega)
      have hfree := hown.free k
      have hnew := hown.store k (xs.getD k 0)
      generalize hX : xs.getD k 0 = X at *
      have HX := show Hid _ from hX
      generalize ys.getD k 0 = Y at *
      clear hX hc
      go_wp2
      go_roundw
      case rel =>
        refine ⟨k + 1, _, by omega, by go_num, hnew, ⟨by simp; exact hys.out.1, fun j hj => ?_⟩, hb.setCell (p := ⟨w.heap.size, k, none⟩) (Nat.le_refl _) _⟩
        by_cases e : j = k
        · subst e
          rw [HX.out]
          simp [List.getD, hys.out.1, hlt]
        · rw [← hys.out.2 j (by omega)]
          simp [List.getD, show k ≠ j from fun h => e h.symm]
      case measure => simp [intOf]; omega
    · obtain rfl : k = n := by omega
      have hxy : ys = xs := list_eq_of_getD (by rw [hys.out.1, HV.out.1]) (fun i hi => hys.out.2 i (by rw [← hys.out.1]; exact hi))
      subst hxy
      go_wp2
      go_ret
      exact ⟨_, rfl, hown, hb⟩

set_option maxHeartbeats 800000 in
/-- Two slices that read as the same numbers. -/
theorem eqInts_same (ao bo : Option Addr) (n cap cap' : Nat) (xs : List Int) (w : World) (hn : n ≤ 4194304) (ha : View .i64 w ao n xs) (hb : View .i64 w bo n xs) :
    Calls Try.prog 16 #[.slice ao n cap, .slice bo n cap'] w fun e w' => e = .returned (.bool true) ∧ Below w.heap.size w w' := by
  have HA := show Hid _ from ha
  have HB := show Hid _ from hb
  clear ha hb
  go_enter Try.func16, Try.ntmps16
  go_wp2
  go_loopw [5] (fun i wr => ∃ k : Nat, k ≤ n ∧ i = .int .i64 k ∧ ∃ q, wr = w.drewN q) (fun i _ => n - (intOf i).toNat)
  case atStart => exact ⟨0, by omega, rfl, 0, rfl⟩
  case round =>
    obtain ⟨k, hk, rfl, q, rfl⟩ := hrel
    by_cases hlt : k < n
    · obtain ⟨b, off, rfl, hc⟩ := HA.out.2 k hlt
      obtain ⟨b', off', rfl, hc'⟩ := HB.out.2 k hlt
      have hlt' : (k : Int) < (n : Int) := by omega
      generalize xs.getD k 0 = X at *
      go_wp2
      go_quiet (fail)
      go_wp2
      go_roundw
      case rel => exact ⟨k + 1, by omega, by go_num, _, rfl⟩
      case measure => simp [intOf]; omega
    · obtain rfl : k = n := by omega
      go_wp2
      go_ret
      exact ⟨rfl, belowN (Below.refl _ _) _⟩

set_option maxHeartbeats 1600000 in
theorem mark_ints (v : Value) (base : Nat) (xs : List Int) (k : Int) (w : World) (hk : 0 < k) (hk2 : k ≤ 10000000) (hn : xs.length ≤ 4194304) (hv : Own w base 3 .i64 v xs) :
    Calls Try.prog 17 #[v, .int .i64 k] w fun e w' => e = .returned (.int .i64 (k + xs.length)) ∧ w.grownBy w' v.ownBlock ∧ Below base w w' := by
  obtain ⟨ao, cap, rfl⟩ := hv.shape
  have hge := fun (a : Addr) (e : ao = some a) => (show base ≤ a.block ∧ a.block < w.heap.size by subst e; exact hv.ge)
  have HGE := hid hge
  have hbs := hv.1
  have HV := hid hv
  clear hge hv
  generalize hN : xs.length = n at *
  have HN := hid hN
  clear hN
  go_enter Try.func17, Try.ntmps17
  go_wp2_with fail
  go_loopw [1, 5] (fun q i wr => ∃ (j : Nat) (ys : List Int), j ≤ n ∧ i = .int .i64 j ∧ q = .int .i64 (k + j) ∧ Hid (Own wr base 3 .i64 (.slice ao n cap) ys) ∧ Hid (ys.length = n) ∧ Hid (w.grownBy wr (Value.slice ao n cap).ownBlock) ∧ Hid (Below base w wr)) (fun _ i _ => n - (intOf i).toNat)
  case atStart => exact ⟨0, xs, by omega, rfl, val_int (by omega), HV.out, HN.out, World.grownBy.refl _ _, Below.refl _ _⟩
  case round =>
    obtain ⟨j, ys, hj, rfl, rfl, hown, hys, hgr, hb⟩ := hrel
    by_cases hlt : j < n
    · have hgo : ∃ g, ao = some ⟨g, 0, none⟩ := by
        rcases hown.out.2.2 with ⟨hv, h0⟩ | ⟨g, cap', cur, hv, _⟩
        · have := hys.out; omega
        · cases hv; exact ⟨g, rfl⟩
      obtain ⟨g, rfl⟩ := hgo
      have hlt' : (j : Int) < (n : Int) := by omega
      have hold := hown.out.at j (by rw [hys.out]; exact hlt)
      have hfr := hown.out.free j
      have HNEW := hid (hown.out.store j (k + j))
      have hgb := (HGE.out _ rfl).1
      have HG2 : Hid (w.grownBy (wr.setCell ⟨g, j, none⟩ (.int .i64 (k + j))) (some g)) := hid ⟨hgr.out.os, hgr.out.tape, hgr.out.output, by have := hgr.out.size; simpa [World.setCell] using this, fun q hq hne => (Below.heap_setCell _ _ _ _ (fun e => hne (by rw [e]))).trans (hgr.out.block q hq hne)⟩
      have HB2 := hid (hb.out.setCell (p := ⟨g, j, none⟩) hgb (.int .i64 (k + j)))
      generalize ys.getD j 0 = Y at *
      go_wp2_with fail
      go_roundw
      case rel => exact ⟨j + 1, _, by omega, by go_num, val_int (by omega), HNEW.out, by rw [List.length_set]; exact hys.out, HG2.out, HB2.out⟩
      case measure => simp [intOf]; omega
    · obtain rfl : j = n := by omega
      go_wp2_with fail
      go_ret
      exact ⟨rfl, hgr.out, hb.out⟩

/-- Rows of other types stay while a disk is marked. -/
theorem OwG.frT {w w' : World} {base base1 base2 e sz : Nat} {v va vb : Value} {n n1 n2 : Nat} {cs cs1 cs2 : List Value} (h : OwG w base e sz v n cs) (h1 : OwG w base1 9 1 va n1 cs1) (h2 : OwG w base2 53 2 vb n2 cs2) (hf : Fr va vb w w') (e1 : e ≠ 9) (e2 : e ≠ 53) : OwG w' base e sz v n cs := by
  have a1 := h.apart h1 e1
  have a2 := h.apart h2 e2
  refine ⟨Nat.le_trans h.1 hf.1, h.2.1, ?_⟩
  rcases h.2.2 with h0 | ⟨g, cap, cur, hv, hg, hh, r⟩
  · exact .inl h0
  · exact .inr ⟨g, cap, cur, hv, hg, (hf.2 g (Array.getElem?_eq_some_iff.1 hh).1 (a1 g (by rw [hv]; rfl)) (a2 g (by rw [hv]; rfl))).trans hh, r⟩
theorem Own.frT {w w' : World} {base base1 base2 : Nat} {v va vb : Value} {n1 n2 : Nat} {xs : List Int} {cs1 cs2 : List Value} (h : Own w base 3 .i64 v xs) (h1 : OwG w base1 9 1 va n1 cs1) (h2 : OwG w base2 53 2 vb n2 cs2) (hf : Fr va vb w w') : Own w' base 3 .i64 v xs :=
  OwG.frT (show OwG w base 3 1 v xs.length (xs.map (Value.int .i64)) from h) h1 h2 hf (by decide) (by decide)
theorem OwG.keptI {w w' : World} {base base' e sz : Nat} {v u : Value} {n : Nat} {cs : List Value} {xs : List Int} (h : OwG w base e sz v n cs) (k : Own w base' 3 .i64 u xs) (hg : w.grownBy w' u.ownBlock) (he : e ≠ 3) : OwG w' base e sz v n cs :=
  h.kept hg (h.apart (show OwG w base' 3 1 u xs.length (xs.map (Value.int .i64)) from k) he)
theorem Blk.keptI {w w' : World} {base' : Nat} {u : Value} {xs : List Int} {b : Nat} {l : List Value} {t : TypeId} (h : Blk w b l t) (k : Own w base' 3 .i64 u xs) (hg : w.grownBy w' u.ownBlock) (he : t ≠ 3) : Blk w' b l t :=
  h.kept hg (OwG.tag (show OwG w base' 3 1 u xs.length (xs.map (Value.int .i64)) from k) h he)
end Go.Proofs.Ytlphojlccecnhab
