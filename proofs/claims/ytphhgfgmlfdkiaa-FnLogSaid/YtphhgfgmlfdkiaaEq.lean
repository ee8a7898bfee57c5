/- Contracts of the law's comparisons where both sides are alike: eqStringS, eqWrite, eqWriteS, eqDisk. -/
import Derived.Test.YtphhgfgmlfdkiaaSz
import Derived.Deep.WholeRow
import Derived.Deep.CutRange
namespace Go.Proofs.Ytphhgfgmlfdkiaa
open Go.RowKit
set_option linter.unusedVariables false

set_option maxHeartbeats 800000 in
theorem eq_strings (ao bo : Option Addr) (cap cap' : Nat) (S : List ByteArray) (w : World) (hn : S.length ≤ 4194304) (ha : Rw w ao (encS S)) (hb : Rw w bo (encS S)) :
    Calls Try.prog 26 #[.slice ao S.length cap, .slice bo S.length cap'] w fun e w' => e = .returned (.bool true) ∧ Below w.heap.size w w' := by
  have HA := hid ha
  have HB := hid hb
  clear ha hb
  generalize hN : S.length = n at *
  have HN := hid hN
  clear hN
  go_enter Try.func26, Try.ntmps26
  go_wp2
  go_loopw [5] (fun i wr => ∃ k : Nat, k ≤ n ∧ i = .int .i64 k ∧ ∃ q, wr = w.drewN q) (fun i _ => n - (intOf i).toNat)
  case atStart => exact ⟨0, by omega, rfl, 0, rfl⟩
  case round =>
    obtain ⟨k, hk, rfl, q, rfl⟩ := hrel
    by_cases hlt : k < n
    · obtain ⟨b, off, rfl, hc⟩ := HA.out.atS k (by rw [HN.out]; exact hlt)
      obtain ⟨b', off', rfl, hc'⟩ := HB.out.atS k (by rw [HN.out]; exact hlt)
      have hlt' : (k : Int) < (n : Int) := by omega
      generalize sAt S k = X at *
      go_wp2
      go_quiet (fail)
      go_wp2
      go_roundw
      case rel => exact ⟨k + 1, by omega, by go_num, _, rfl⟩
      case measure => simp [intOf]; omega
    · obtain rfl : k = n := by omega
      go_wp2
      go_ret
      exact ⟨rfl, belowN (Below.refl _ _) _⟩

set_option maxHeartbeats 800000 in
theorem eq_write (x : Int) (s : ByteArray) (w : World) :
    Calls Try.prog 90 #[.agg #[.int .i64 x, .string s], .agg #[.int .i64 x, .string s]] w fun e w' => e = .returned (.bool true) ∧ Below w.heap.size w w' := by
  go_enter Try.func90, Try.ntmps90
  go_wp2
  go_ret
  exact ⟨rfl, ((Below.refl w.heap.size w).alloc (Nat.le_refl _) _).alloc (by simp) _⟩

set_option maxHeartbeats 1600000 in
theorem eq_writes (ao bo : Option Addr) (cap cap' : Nat) (L : List (Int × ByteArray)) (w : World) (hn : L.length ≤ 4194304) (ha : Rw w ao (encW L)) (hb : Rw w bo (encW L)) :
    Calls Try.prog 67 #[.slice ao L.length cap, .slice bo L.length cap'] w fun e w' => e = .returned (.bool true) ∧ Below w.heap.size w w' := by
  have HA := hid ha
  have HB := hid hb
  clear ha hb
  generalize hN : L.length = n at *
  have HN := hid hN
  clear hN
  go_enter Try.func67, Try.ntmps67
  go_wp2
  go_loopw [5] (fun i wr => ∃ k : Nat, k ≤ n ∧ i = .int .i64 k ∧ Hid (Below w.heap.size w wr)) (fun i _ => n - (intOf i).toNat)
  case atStart => exact ⟨0, by omega, rfl, Below.refl _ _⟩
  case round =>
    obtain ⟨k, hk, rfl, hbb⟩ := hrel
    by_cases hlt : k < n
    · obtain ⟨b, off, rfl, hc1, hc2⟩ := (HA.out.below (Nat.le_refl _) hbb.out).atW k (by rw [HN.out]; exact hlt)
      obtain ⟨b', off', rfl, hc1', hc2'⟩ := (HB.out.below (Nat.le_refl _) hbb.out).atW k (by rw [HN.out]; exact hlt)
      have hlt' : (k : Int) < (n : Int) := by omega
      have HC := hid (fun q => eq_write (lAt L k).1 (lAt L k).2 q)
      generalize (lAt L k).1 = X at *
      generalize (lAt L k).2 = Y at *
      go_wp2_with fail
      go_cut [26] from 17 to 26 (fun s wx => s = .bool false ∧ Below wr.heap.size wr wx)
      case first =>
        go_region_with (go_at_call 90; refine (HC.out _).mono ?_
                        rintro e w2 ⟨rfl, hb2⟩
                        have hc2 : Below wr.heap.size wr w2 := by first | exact hb2 | exact Below.trans (Below.refl _ _).drew hb2 | exact Below.trans (Below.refl _ _).drew.drew hb2)
        all_goals
          go_wp2_with fail
          go_meet
          first | exact ⟨rfl, hc2⟩ | exact ⟨rfl, hc2.drew⟩
      case rest =>
        obtain ⟨rfl, hb9⟩ := hcut
        have B9 := hid (hbb.out.trans (hb9.mono hbb.out.size))
        clear hb9
        go_wp2_with fail
        go_roundw
        case rel => exact ⟨k + 1, by omega, by go_num, B9.out⟩
        case measure => simp [intOf]; omega
    · obtain rfl : k = n := by omega
      go_wp2_with fail
      go_ret
      exact ⟨rfl, hbb.out⟩

set_option maxHeartbeats 1600000 in
theorem eq_disk (v v' : Value) (S : List ByteArray) (L : List (Int × ByteArray)) (w : World) (h1 : S.length ≤ 4194304) (h2 : L.length ≤ 4194304) (hv : DV w v S L) (hv' : DV w v' S L) :
    Calls Try.prog 32 #[v, v'] w fun e w' => e = .returned (.bool true) ∧ Below w.heap.size w w' := by
  obtain ⟨a, c, a', c', rfl, r1, r2⟩ := hv
  obtain ⟨b, d, b', d', rfl, s1, s2⟩ := hv'
  obtain ⟨n1, n2, n3⟩ := new_two w [.slice a S.length c, .slice a' L.length c'] [.slice b S.length d, .slice b' L.length d'] 27 27
  have N1 := hid n1
  have N2 := hid n2
  have N3 := hid n3
  have R2 := hid r2
  have S2 := hid s2
  have HC := hid (eq_strings a b c d S _ h1 (r1.below (Nat.le_refl _) n3) (s1.below (Nat.le_refl _) n3))
  clear n1 n2 n3 r1 r2 s1 s2
  go_enter Try.func32, Try.ntmps32
  go_wp2_with fail
  refine HC.out.mono ?_
  clear HC
  generalize (w.alloc _).alloc _ = wa at *
  rintro e w1 ⟨rfl, hb1⟩
  have M1 := (N1.out.below hb1 N1.out.lt)
  have M2 := (N2.out.below hb1 N2.out.lt)
  have c1 := M1.cell (i := 1) rfl
  have c2 := M2.cell (i := 1) rfl
  have M3 := hid (N3.out.trans (hb1.mono N3.out.size))
  clear M1 M2 N1 N2 N3 hb1
  go_wp2_with fail
  refine (eq_writes a' b' c' d' L _ h2 (R2.out.below (Nat.le_refl _) M3.out) (S2.out.below (Nat.le_refl _) M3.out)).mono ?_
  rintro e w2 ⟨rfl, hb2⟩
  have M4 := hid (M3.out.trans (hb2.mono M3.out.size))
  clear hb2 c1 c2
  go_wp2_with fail
  go_ret
  exact ⟨rfl, M4.out⟩
end Go.Proofs.Ytphhgfgmlfdkiaa
