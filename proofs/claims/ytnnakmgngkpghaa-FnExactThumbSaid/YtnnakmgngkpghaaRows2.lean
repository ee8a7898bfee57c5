/- Rows of blocks that are the call's own: contracts of their size, their copy, their comparison and their marks. -/
import Derived.Test.YtnnakmgngkpghaaShift
import Derived.Test.YtnnakmgngkpghaaMark
import Derived.Deep.WholeRow
import Derived.Deep.CutRange
namespace Go.Proofs.Ytnnakmgngkpghaa
open Go.RowKit
set_option linter.unusedVariables false

/-- Block b holds a row of cells. -/
def Arr (w : World) (b : Nat) (cs : Array Value) (t : TypeId) : Prop := w.heap[b]? = some (.cells cs t (0, 0))
theorem Arr.cell {w : World} {b : Nat} {cs : Array Value} {t : TypeId} (h : Arr w b cs t) (j : Nat) : w.cell? ⟨b, j, none⟩ = cs[j]? := by
  unfold Arr at h
  simp [World.cell?, h]
theorem Arr.free {w : World} {b : Nat} {cs : Array Value} {t : TypeId} (h : Arr w b cs t) (j : Nat) : w.frozen? ⟨b, j, none⟩ = false := by
  unfold Arr at h
  simp [World.frozen?, h]
theorem Arr.lt {w : World} {b : Nat} {cs : Array Value} {t : TypeId} (h : Arr w b cs t) : b < w.heap.size := (Array.getElem?_eq_some_iff.1 h).1
theorem Arr.below {w w' : World} {B b : Nat} {cs : Array Value} {t : TypeId} (h : Arr w b cs t) (hb : Below B w w') (hB : b < B) : Arr w' b cs t := (hb.block b hB).trans h
theorem Arr.set {w : World} {b : Nat} {cs : Array Value} {t : TypeId} (h : Arr w b cs t) (i : Nat) (u : Value) : Arr (w.setCell ⟨b, i, none⟩ u) b (cs.setIfInBounds i u) t := heap_setCell_same w b i _ t u h
theorem Arr.other {w : World} {b c i : Nat} {cs : Array Value} {t : TypeId} (h : Arr w b cs t) (hne : b ≠ c) (u : Value) : Arr (w.setCell ⟨c, i, none⟩ u) b cs t := (Below.heap_setCell _ _ _ _ (fun e => hne (by rw [e]))).trans h

/-- What is left of a measure when the blocks from k on are taken from l; negative at once where it is not enough. -/
def sizes (L : List (Int × List Int)) : Nat → Nat
  | 0 => 0
  | k + 1 => sizes L k + (nth L k).2.length
theorem sizes_le (L : List (Int × List Int)) : ∀ n k, k < n → (nth L k).2.length ≤ sizes L n
  | n + 1, k, hk => by
    rw [sizes]
    by_cases e : k = n
    · subst e; omega
    · have := sizes_le L n k (by omega)
      omega

set_option maxRecDepth 100000 in
set_option maxHeartbeats 1600000 in
theorem szBlockS (ao : Option Addr) (cap : Nat) (L : List (Int × List Int)) (w : World) (hn : L.length ≤ 9223372036854775807) (hs : ∀ j, j < L.length → (nth L j).2.length ≤ 9223372036854775807) (hv : BRow w ao L) :
    Calls Try.prog 14 #[.slice ao L.length cap, .int .i64 1048576] w fun e w' => ∃ r : Int, e = .returned (.int .i64 r) ∧ (r < 0 ∨ L.length ≤ 1048576 ∧ ∀ j, j < L.length → (nth L j).2.length ≤ 1048576) ∧ Below w.heap.size w w' := by
  have HV := hid hv
  have HS := hid hs
  clear hv hs
  by_cases hl : (1048576 : Int) - L.length < 0
  · go_enter Try.func14, Try.ntmps14
    go_wp2_with fail
    go_ret
    exact ⟨_, rfl, .inl (by decide), Below.refl _ _⟩
  · have hl2 : L.length ≤ 1048576 := by omega
    go_enter Try.func14, Try.ntmps14
    go_wp2_with fail
    go_loopw [1, 5] (fun l i wr => ∃ (k : Nat) (q : Int), k ≤ L.length ∧ i = .int .i64 k ∧ l = .int .i64 q ∧ (0 ≤ q ∧ q ≤ 1048576) ∧ Hid (∀ j, j < k → (nth L j).2.length ≤ 1048576) ∧ Hid (Below w.heap.size w wr)) (fun _ i _ => L.length - (intOf i).toNat)
    case atStart => exact ⟨0, 1048576 - L.length, by omega, rfl, rfl, by omega, fun j hj => by omega, Below.refl _ _⟩
    case round =>
      obtain ⟨k, q, hk, rfl, rfl, ⟨hq0, hq1⟩, hall, hb⟩ := hrel
      by_cases hlt : k < L.length
      · obtain ⟨b, off, a, c, rfl, hc1, hc2, hvw⟩ := HV.out.below hb.out k hlt
        have hlt' : (k : Int) < (L.length : Int) := by omega
        have HSZ := hid (szBlock (nth L k).1 a (nth L k).2.length c q wr (HS.out k hlt) hq0 hq1)
        have HNX := hid (fun (h : (nth L k).2.length ≤ 1048576) j (hj : j < k + 1) => (show (nth L j).2.length ≤ 1048576 by
          by_cases e : j = k
          · rw [e]; exact h
          · exact hall.out j (by omega)))
        generalize (nth L k).1 = D at *
        generalize (nth L k).2.length = N at *
        by_cases hneg : q - (N : Int) < 0
        · have e0 : lft q N = -1 := by unfold lft; rw [if_pos hneg]
          rw [e0] at HSZ
          go_wp2_with fail
          refine HSZ.out.mono ?_
          rintro e w2 ⟨rfl, hb2⟩
          have B2 := hid (hb.out.trans (hb2.mono hb.out.size))
          go_wp2_with fail
          go_ret
          exact ⟨_, rfl, .inl (by decide), B2.out⟩
        · have e0 : lft q N = q - N := by unfold lft; rw [if_neg hneg]
          rw [e0] at HSZ
          have HNY := hid (HNX.out (by omega))
          go_wp2_with fail
          refine HSZ.out.mono ?_
          rintro e w2 ⟨rfl, hb2⟩
          have B2 := hid (hb.out.trans (hb2.mono hb.out.size))
          go_wp2_with fail
          go_roundw
          case rel => exact ⟨k + 1, q - N, by omega, by go_num, rfl, by omega, HNY.out, B2.out⟩
          case measure => simp [intOf]; omega
      · obtain rfl : k = L.length := by omega
        go_wp2_with fail
        go_ret
        exact ⟨_, rfl, .inr ⟨hl2, hall.out⟩, hb.out⟩

set_option maxRecDepth 100000 in
set_option maxHeartbeats 1600000 in
/-- Two rows of blocks that read as the same. -/
theorem eqBlockS_same (ao bo : Option Addr) (cap cap' : Nat) (L : List (Int × List Int)) (w : World) (hn : L.length ≤ 1048576) (hs : ∀ j, j < L.length → (nth L j).2.length ≤ 1048576) (ha : BRow w ao L) (hb : BRow w bo L) :
    Calls Try.prog 22 #[.slice ao L.length cap, .slice bo L.length cap'] w fun e w' => e = .returned (.bool true) ∧ Below w.heap.size w w' := by
  have HA := hid ha
  have HB := hid hb
  have HS := hid hs
  clear ha hb hs
  have hnn : ((L.length : Int) != (L.length : Int)) = false := by simp
  go_enter Try.func22, Try.ntmps22
  go_wp2_with fail
  go_loopw [5] (fun i wr => ∃ k : Nat, k ≤ L.length ∧ i = .int .i64 k ∧ Hid (Below w.heap.size w wr)) (fun i _ => L.length - (intOf i).toNat)
  case atStart => exact ⟨0, by omega, rfl, Below.refl _ _⟩
  case round =>
    obtain ⟨k, hk, rfl, hbr⟩ := hrel
    by_cases hlt : k < L.length
    · obtain ⟨b, off, a, c, rfl, hc1, hc2, hvw⟩ := HA.out.below hbr.out k hlt
      obtain ⟨b', off', a', c', rfl, hc1', hc2', hvw'⟩ := HB.out.below hbr.out k hlt
      have hlt' : (k : Int) < (L.length : Int) := by omega
      have HEQ := hid (fun q (hq : Below wr.heap.size wr q) => eqBlock_same (.agg #[.int .i64 (nth L k).1, .slice a (nth L k).2.length c]) (.agg #[.int .i64 (nth L k).1, .slice a' (nth L k).2.length c']) (nth L k).1 (nth L k).2 q (HS.out k hlt) ⟨a, c, rfl, hvw.below (Nat.le_refl _) hq⟩ ⟨a', c', rfl, hvw'.below (Nat.le_refl _) hq⟩)
      generalize (nth L k).1 = D at *
      generalize (nth L k).2 = XS at *
      clear hvw hvw'
      go_wp2_with fail
      go_cut [26] from 17 to 26 (fun s wx => s = .bool false ∧ Below wr.heap.size wr wx)
      case first =>
        go_region_with (go_at_call 33; refine (HEQ.out _ ?_).mono ?_; · first | exact Below.refl _ _ | exact (Below.refl _ _).drew | exact (Below.refl _ _).drew.drew
                        rintro e w2 ⟨rfl, hb2⟩
                        have hc2 : Below wr.heap.size wr w2 := by first | exact hb2 | exact Below.trans (Below.refl _ _).drew hb2 | exact Below.trans (Below.refl _ _).drew.drew hb2)
        all_goals
          go_wp2_with fail
          go_meet
          first | exact ⟨rfl, hc2⟩ | exact ⟨rfl, hc2.drew⟩
      case rest =>
        obtain ⟨rfl, hb9⟩ := hcut
        have B9 := hid (hbr.out.trans (hb9.mono hbr.out.size))
        clear hb9
        go_wp2_with fail
        go_roundw
        case rel => exact ⟨k + 1, by omega, by go_num, B9.out⟩
        case measure => simp [intOf]; omega
    · obtain rfl : k = L.length := by omega
      go_wp2_with fail
      go_ret
      exact ⟨rfl, hbr.out⟩
end Go.Proofs.Ytnnakmgngkpghaa
