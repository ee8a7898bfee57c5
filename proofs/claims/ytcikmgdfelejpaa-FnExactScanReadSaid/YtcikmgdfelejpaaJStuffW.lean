/- The contracts of Stuff, of the program and of the specification. -/
import Derived.Test.YtcikmgdfelejpaaRows
import Derived.Test.YtcikmgdfelejpaaJStuffP
namespace Go.Proofs.Ytcikmgdfelejpaa
open Go.RowKit
set_option linter.unusedVariables false

set_option maxHeartbeats 800000 in
theorem spec_stuff (s : ByteArray) (w : World) (hs : s.size ≤ 60000) :
    Calls Try.prog 58 #[.string s] w fun e w' => e = .returned (.string (strOfNums (stuffTo (bt s) s.size))) ∧ Below w.heap.size w w' := by
  have hl : decide ((60000 : Int) < (s.size : Int)) = false := by simp; omega
  go_enter Try.func58, Try.ntmps58
  go_wp2
  go_loopw [3, 4] (fun v i wr => ∃ k : Nat, k ≤ s.size ∧ i = .int .i64 k ∧ Own wr w.heap.size 5 .u8 v (stuffTo (bt s) k) ∧ Below w.heap.size w wr) (fun _ i _ => s.size - (intOf i).toNat)
  case atStart =>
    exact ⟨0, by omega, rfl, Own.empty _ _ _ _ (Nat.le_refl _), (Below.refl _ _).alloc (Nat.le_refl _) _⟩
  case round =>
    obtain ⟨k, hk, rfl, hown, hb⟩ := hrel
    by_cases hlt : k < s.size
    · have hlen := stuffTo_length (bt s) k
      have he := bt_eq s k hlt
      by_cases h255 : (s[k].toNat : Int) = 255
      · have hq : ((s[k].toNat : Int) == 255) = true := by simpa using h255
        have hst : Hid (stuffTo (bt s) (k + 1) = stuffTo (bt s) k ++ [(s[k].toNat : Int), 0]) := by
          show _ = _
          simp only [stuffTo]; rw [he, if_pos h255]
        clear he h255
        go_wp2_with (at_builtin; refine wpList_push _ rfl _ _ 129 rfl _ 5 .u8 0 1 Try.underlying129 Try.info5 _ _ rfl hown (s[k].toNat : Int) rfl (by omega) (by decide) ?_)
        intro v1 w1 hown1 hb1
        have hlen1 : (stuffTo (bt s) k ++ [(s[k].toNat : Int)]).length < 1000000000000 := by simp; omega
        go_wp2_with (at_builtin; refine wpList_push _ rfl _ _ 129 rfl _ 5 .u8 0 1 Try.underlying129 Try.info5 _ _ rfl hown1 0 rfl hlen1 (by decide) ?_)
        intro v2 w2 hown2 hb2
        go_wp2
        go_roundw
        case rel => exact ⟨k + 1, by omega, by go_num, by rw [hst.out]; exact hown2, (hb.trans hb1).trans hb2⟩
        case measure => simp [intOf]; omega
      · have hq : ((s[k].toNat : Int) == 255) = false := by simpa using h255
        have hst : Hid (stuffTo (bt s) (k + 1) = stuffTo (bt s) k ++ [(s[k].toNat : Int)]) := by
          show _ = _
          simp only [stuffTo]; rw [he, if_neg h255]
        clear he h255
        go_wp2_with (at_builtin; refine wpList_push _ rfl _ _ 129 rfl _ 5 .u8 0 1 Try.underlying129 Try.info5 _ _ rfl hown (s[k].toNat : Int) rfl (by omega) (by decide) ?_)
        intro v1 w1 hown1 hb1
        go_wp2
        go_roundw
        case rel => exact ⟨k + 1, by omega, by go_num, by rw [hst.out]; exact hown1, hb.trans hb1⟩
        case measure => simp [intOf]; omega
    · obtain rfl : k = s.size := by omega
      have hc := Own.conv Try.underlying129 Try.underlying5 Try.underlying9 hown
      go_wp2
      go_ret
      exact ⟨rfl, hb⟩

set_option maxHeartbeats 800000 in
theorem impl_stuff (s : ByteArray) (w : World) (hs : s.size ≤ 60000) :
    Calls Try.prog 60 #[.string s] w fun e w' => e = .returned (.string (strOfNums (stuffTo (bt s) s.size))) ∧ Below w.heap.size w w' := by
  have hl : decide ((60000 : Int) < (s.size : Int)) = false := by simp; omega
  go_enter Try.func60, Try.ntmps60
  go_wp2_with (at_make; refine wpList_mk0 w rfl _ _ 129 rfl w.heap.size 5 .u8 0 1 Try.underlying129 Try.info5 _ _ s.size rfl rfl (by omega) (by decide) (Nat.le_refl _) ?_)
  intro w0 hown0 hb0
  go_wp2
  go_loopw [3, 13] (fun v i wr => ∃ k : Nat, k ≤ s.size ∧ i = .int .i64 k ∧ Own wr w.heap.size 5 .u8 v (stuffTo (bt s) k) ∧ Below w.heap.size w wr) (fun _ i _ => s.size - (intOf i).toNat)
  case atStart =>
    exact ⟨0, by omega, rfl, hown0, hb0⟩
  case round =>
    obtain ⟨k, hk, rfl, hown, hb⟩ := hrel
    clear hown0 hb0
    by_cases hlt : k < s.size
    · have hlen := stuffTo_length (bt s) k
      have he := bt_eq s k hlt
      by_cases h255 : (s[k].toNat : Int) = 255
      · have hq : ((s[k].toNat : Int) == 255) = true := by simpa using h255
        have hst : Hid (stuffTo (bt s) (k + 1) = stuffTo (bt s) k ++ [(s[k].toNat : Int), 0]) := by
          show _ = _
          simp only [stuffTo]; rw [he, if_pos h255]
        clear he h255
        go_wp2_with (at_builtin; refine wpList_push _ rfl _ _ 129 rfl _ 5 .u8 0 1 Try.underlying129 Try.info5 _ _ rfl hown (s[k].toNat : Int) rfl (by omega) (by decide) ?_)
        intro v1 w1 hown1 hb1
        have hlen1 : (stuffTo (bt s) k ++ [(s[k].toNat : Int)]).length < 1000000000000 := by simp; omega
        go_wp2_with (at_builtin; refine wpList_push _ rfl _ _ 129 rfl _ 5 .u8 0 1 Try.underlying129 Try.info5 _ _ rfl hown1 0 rfl hlen1 (by decide) ?_)
        intro v2 w2 hown2 hb2
        go_wp2
        go_roundw
        case rel => exact ⟨k + 1, by omega, by go_num, by rw [hst.out]; exact hown2, (hb.trans hb1).trans hb2⟩
        case measure => simp [intOf]; omega
      · have hq : ((s[k].toNat : Int) == 255) = false := by simpa using h255
        have hst : Hid (stuffTo (bt s) (k + 1) = stuffTo (bt s) k ++ [(s[k].toNat : Int)]) := by
          show _ = _
          simp only [stuffTo]; rw [he, if_neg h255]
        clear he h255
        go_wp2_with (at_builtin; refine wpList_push _ rfl _ _ 129 rfl _ 5 .u8 0 1 Try.underlying129 Try.info5 _ _ rfl hown (s[k].toNat : Int) rfl (by omega) (by decide) ?_)
        intro v1 w1 hown1 hb1
        go_wp2
        go_roundw
        case rel => exact ⟨k + 1, by omega, by go_num, by rw [hst.out]; exact hown1, hb.trans hb1⟩
        case measure => simp [intOf]; omega
    · obtain rfl : k = s.size := by omega
      have hc := Own.conv Try.underlying129 Try.underlying5 Try.underlying9 hown
      go_wp2
      go_ret
      exact ⟨rfl, hb⟩

theorem spec_stuff_no (s : ByteArray) (w : World) (h : 60000 < s.size) (hs : s.size ≤ 1048576) :
    Calls Try.prog 58 #[.string s] w fun e w' => e = .returned (.string ⟨#[]⟩) ∧ Below w.heap.size w w' := by
  have hl : (60000 : Int) < (s.size : Int) := by omega
  go_enter Try.func58, Try.ntmps58
  go_wp2
  go_ret
  exact ⟨rfl, (Below.refl _ _).alloc (Nat.le_refl _) _⟩

theorem impl_stuff_no (s : ByteArray) (w : World) (h : 60000 < s.size) (hs : s.size ≤ 1048576) :
    Calls Try.prog 60 #[.string s] w fun e w' => e = .returned (.string ⟨#[]⟩) ∧ Below w.heap.size w w' := by
  have hl : (60000 : Int) < (s.size : Int) := by omega
  go_enter Try.func60, Try.ntmps60
  go_wp2
  go_ret
  exact ⟨rfl, Below.refl _ _⟩

end Go.Proofs.Ytcikmgdfelejpaa
