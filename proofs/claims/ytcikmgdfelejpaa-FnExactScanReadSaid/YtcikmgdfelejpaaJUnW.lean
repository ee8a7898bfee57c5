/- The contracts of Unstuff, of the program and of the specification. -/
import Derived.Test.YtcikmgdfelejpaaJStuffW
namespace Go.Proofs.Ytcikmgdfelejpaa
open Go.RowKit
set_option linter.unusedVariables false

def noText : ByteArray := ⟨#[]⟩

/-- What Unstuff hands back. -/
def unR (s : ByteArray) : ByteArray × Bool :=
  match unst (bt s) s.size s.size 0 [] with
  | none => (noText, false)
  | some xs => if 60000 < xs.length then (noText, false) else (strOfNums xs, true)

theorem unR_none (s : ByteArray) (h : unst (bt s) s.size s.size 0 [] = none) : unR s = (noText, false) := by simp [unR, h]
theorem unR_long (s : ByteArray) (xs : List Int) (h : unst (bt s) s.size s.size 0 [] = some xs) (hl : 60000 < xs.length) : unR s = (noText, false) := by simp [unR, h, hl]
theorem unR_some (s : ByteArray) (xs : List Int) (h : unst (bt s) s.size s.size 0 [] = some xs) (hl : ¬ 60000 < xs.length) : unR s = (strOfNums xs, true) := by simp [unR, h, hl]
theorem unR_far (s : ByteArray) (h : 120000 < s.size) : unR s = (noText, false) := by
  cases hu : unst (bt s) s.size s.size 0 [] with
  | none => exact unR_none s hu
  | some xs =>
    have := unst_long (bt s) s.size s.size 0 [] xs (by omega) hu
    exact unR_long s xs hu (by simp at this; omega)

theorem ret_sb {a : ByteArray} {c : Bool} {p : ByteArray × Bool} (h : p = (a, c)) : Ending.returned (.tuple #[.string a, .bool c]) = .returned (.tuple #[.string p.1, .bool p.2]) := by rw [h]

set_option maxRecDepth 100000 in
set_option maxHeartbeats 1600000 in
theorem spec_unstuff (s : ByteArray) (w : World) (hs : s.size ≤ 1048576) :
    Calls Try.prog 62 #[.string s] w fun e w' => e = .returned (.tuple #[.string (unR s).1, .bool (unR s).2]) ∧ Below w.heap.size w w' := by
  go_enter Try.func62, Try.ntmps62
  go_wp2
  go_loopw [4, 5] (fun v i wr => ∃ (k f : Nat) (xs : List Int), k ≤ s.size ∧ i = .int .i64 k ∧ Own wr w.heap.size 5 .u8 v xs ∧ xs.length ≤ k ∧ s.size - k ≤ f ∧ Hid (unst (bt s) s.size f k xs = unst (bt s) s.size s.size 0 []) ∧ Below w.heap.size w wr) (fun _ i _ => s.size - (intOf i).toNat)
  case atStart =>
    exact ⟨0, s.size, [], by omega, rfl, Own.empty _ _ _ _ (Nat.le_refl _), by simp, by omega, rfl, (Below.refl _ _).alloc (Nat.le_refl _) _⟩
  case round =>
    obtain ⟨k, f, xs, hk, rfl, hown, hlen, hf, hinv, hb⟩ := hrel
    by_cases hlt : k < s.size
    · have he := bt_eq s k hlt
      by_cases h255 : (s[k].toNat : Int) = 255
      · have hq : ((s[k].toNat : Int) == 255) = true := by simpa using h255
        have hq' : ((s[k].toNat : Int) != 255) = false := by simpa using h255
        by_cases hn : k + 1 < s.size
        · have he1 := bt_eq s (k + 1) hn
          have hn' : (k : Int) + 1 < (s.size : Int) := by omega
          have hn2 : ((k : Int) + 1 == (s.size : Int)) = false := by simp; omega
          by_cases h0 : (s[k + 1].toNat : Int) = 0
          · have hz : ((s[k + 1].toNat : Int) != 0) = false := by simpa using h0
            have hst := unst_mark (bt s) s.size f k xs hn hf (by rw [he]; exact h255) (by rw [he1]; exact h0)
            rw [he] at hst
            have HST := show Hid _ from hst
            clear he he1 h255 h0 hst
            go_wp2_with (at_builtin; refine wpList_push _ rfl _ _ 129 rfl _ 5 .u8 0 1 Try.underlying129 Try.info5 _ _ rfl hown (s[k].toNat : Int) rfl (by omega) (by decide) ?_)
            intro v1 w1 hown1 hb1
            go_wp2
            go_roundw
            case rel =>
              obtain ⟨g, hg, hu⟩ := HST.out
              exact ⟨k + 2, g, _, by omega, by go_num, hown1, by simp; omega, hg, hu.symm.trans hinv.out, hb.trans hb1⟩
            case measure => simp [intOf]; omega
          · have hz : ((s[k + 1].toNat : Int) != 0) = true := by simpa using h0
            have hr := unR_none s (hinv.out.symm.trans (unst_bad (bt s) s.size f k xs hlt hf (by rw [he]; exact h255) (.inr (by rw [he1]; exact h0))))
            have HR := show Hid _ from hr
            clear he he1 h255 h0 hr
            go_wp2_with (at_builtin; refine wpList_push _ rfl _ _ 129 rfl _ 5 .u8 0 1 Try.underlying129 Try.info5 _ _ rfl hown (s[k].toNat : Int) rfl (by omega) (by decide) ?_)
            intro v1 w1 hown1 hb1
            go_wp2
            go_ret2
            exact ⟨ret_sb HR.out, hb.trans hb1⟩
        · have hn' : (s.size : Int) ≤ (k : Int) + 1 := by omega
          have hn2 : ((k : Int) + 1 == (s.size : Int)) = true := by simp; omega
          have hr := unR_none s (hinv.out.symm.trans (unst_bad (bt s) s.size f k xs hlt hf (by rw [he]; exact h255) (.inl (by omega))))
          have HR := show Hid _ from hr
          clear he h255 hr
          go_wp2_with (at_builtin; refine wpList_push _ rfl _ _ 129 rfl _ 5 .u8 0 1 Try.underlying129 Try.info5 _ _ rfl hown (s[k].toNat : Int) rfl (by omega) (by decide) ?_)
          intro v1 w1 hown1 hb1
          go_wp2
          go_ret2
          exact ⟨ret_sb HR.out, hb.trans hb1⟩
      · have hq : ((s[k].toNat : Int) == 255) = false := by simpa using h255
        have hq' : ((s[k].toNat : Int) != 255) = true := by simpa using h255
        have hst := unst_plain (bt s) s.size f k xs hlt hf (by rw [he]; exact h255)
        rw [he] at hst
        have HST := show Hid _ from hst
        clear he h255 hst
        go_wp2_with (at_builtin; refine wpList_push _ rfl _ _ 129 rfl _ 5 .u8 0 1 Try.underlying129 Try.info5 _ _ rfl hown (s[k].toNat : Int) rfl (by omega) (by decide) ?_)
        intro v1 w1 hown1 hb1
        go_wp2
        go_roundw
        case rel =>
          obtain ⟨g, hg, hu⟩ := HST.out
          exact ⟨k + 1, g, _, by omega, by go_num, hown1, by simp; omega, hg, hu.symm.trans hinv.out, hb.trans hb1⟩
        case measure => simp [intOf]; omega
    · obtain rfl : k = s.size := by omega
      have hu := hinv.out.symm.trans (unst_end (bt s) s.size f s.size xs (Nat.le_refl _))
      have hc := Own.conv Try.underlying129 Try.underlying5 Try.underlying9 hown
      obtain ⟨ao, cap, rfl⟩ := hown.shape
      clear hinv
      by_cases hlong : (60000 : Int) < (xs.length : Int)
      · have HR := show Hid _ from unR_long s xs hu (by omega)
        clear hu
        go_wp2
        go_ret2
        exact ⟨ret_sb HR.out, hb⟩
      · have HR := show Hid _ from unR_some s xs hu (by omega)
        clear hu
        go_wp2
        go_ret2
        exact ⟨ret_sb HR.out, hb⟩

set_option maxRecDepth 100000 in
set_option maxHeartbeats 1600000 in
theorem impl_unstuff (s : ByteArray) (w : World) (hs : s.size ≤ 120000) :
    Calls Try.prog 64 #[.string s] w fun e w' => e = .returned (.tuple #[.string (unR s).1, .bool (unR s).2]) ∧ Below w.heap.size w w' := by
  have hl : decide ((120000 : Int) < (s.size : Int)) = false := by simp; omega
  go_enter Try.func64, Try.ntmps64
  go_wp2_with (at_make; refine wpList_mk0 w rfl _ _ 129 rfl w.heap.size 5 .u8 0 1 Try.underlying129 Try.info5 _ _ s.size rfl rfl (by omega) (by decide) (Nat.le_refl _) ?_)
  intro w0 hown0 hb0
  go_wp2
  go_loopw [4, 5] (fun v i wr => ∃ (k f : Nat) (xs : List Int), k ≤ s.size ∧ i = .int .i64 k ∧ Own wr w.heap.size 5 .u8 v xs ∧ xs.length ≤ k ∧ s.size - k ≤ f ∧ Hid (unst (bt s) s.size f k xs = unst (bt s) s.size s.size 0 []) ∧ Below w.heap.size w wr) (fun _ i _ => s.size - (intOf i).toNat)
  case atStart =>
    exact ⟨0, s.size, [], by omega, rfl, hown0, by simp, by omega, rfl, hb0⟩
  case round =>
    obtain ⟨k, f, xs, hk, rfl, hown, hlen, hf, hinv, hb⟩ := hrel
    by_cases hlt : k < s.size
    · have he := bt_eq s k hlt
      by_cases h255 : (s[k].toNat : Int) = 255
      · have hq : ((s[k].toNat : Int) == 255) = true := by simpa using h255
        have hq' : ((s[k].toNat : Int) != 255) = false := by simpa using h255
        by_cases hn : k + 1 < s.size
        · have he1 := bt_eq s (k + 1) hn
          have hn' : (k : Int) + 1 < (s.size : Int) := by omega
          have hn2 : ((k : Int) + 1 == (s.size : Int)) = false := by simp; omega
          by_cases h0 : (s[k + 1].toNat : Int) = 0
          · have hz : ((s[k + 1].toNat : Int) != 0) = false := by simpa using h0
            have hst := unst_mark (bt s) s.size f k xs hn hf (by rw [he]; exact h255) (by rw [he1]; exact h0)
            rw [he] at hst
            have HST := show Hid _ from hst
            clear he he1 h255 h0 hst
            go_wp2_with (at_builtin; refine wpList_push _ rfl _ _ 129 rfl _ 5 .u8 0 1 Try.underlying129 Try.info5 _ _ rfl hown (s[k].toNat : Int) rfl (by omega) (by decide) ?_)
            intro v1 w1 hown1 hb1
            go_wp2
            go_roundw
            case rel =>
              obtain ⟨g, hg, hu⟩ := HST.out
              exact ⟨k + 2, g, _, by omega, by go_num, hown1, by simp; omega, hg, hu.symm.trans hinv.out, hb.trans hb1⟩
            case measure => simp [intOf]; omega
          · have hz : ((s[k + 1].toNat : Int) != 0) = true := by simpa using h0
            have hr := unR_none s (hinv.out.symm.trans (unst_bad (bt s) s.size f k xs hlt hf (by rw [he]; exact h255) (.inr (by rw [he1]; exact h0))))
            have HR := show Hid _ from hr
            clear he he1 h255 h0 hr
            go_wp2_with (at_builtin; refine wpList_push _ rfl _ _ 129 rfl _ 5 .u8 0 1 Try.underlying129 Try.info5 _ _ rfl hown (s[k].toNat : Int) rfl (by omega) (by decide) ?_)
            intro v1 w1 hown1 hb1
            go_wp2
            go_ret2
            exact ⟨ret_sb HR.out, hb.trans hb1⟩
        · have hn' : (s.size : Int) ≤ (k : Int) + 1 := by omega
          have hn2 : ((k : Int) + 1 == (s.size : Int)) = true := by simp; omega
          have hr := unR_none s (hinv.out.symm.trans (unst_bad (bt s) s.size f k xs hlt hf (by rw [he]; exact h255) (.inl (by omega))))
          have HR := show Hid _ from hr
          clear he h255 hr
          go_wp2_with (at_builtin; refine wpList_push _ rfl _ _ 129 rfl _ 5 .u8 0 1 Try.underlying129 Try.info5 _ _ rfl hown (s[k].toNat : Int) rfl (by omega) (by decide) ?_)
          intro v1 w1 hown1 hb1
          go_wp2
          go_ret2
          exact ⟨ret_sb HR.out, hb.trans hb1⟩
      · have hq : ((s[k].toNat : Int) == 255) = false := by simpa using h255
        have hq' : ((s[k].toNat : Int) != 255) = true := by simpa using h255
        have hst := unst_plain (bt s) s.size f k xs hlt hf (by rw [he]; exact h255)
        rw [he] at hst
        have HST := show Hid _ from hst
        clear he h255 hst
        go_wp2_with (at_builtin; refine wpList_push _ rfl _ _ 129 rfl _ 5 .u8 0 1 Try.underlying129 Try.info5 _ _ rfl hown (s[k].toNat : Int) rfl (by omega) (by decide) ?_)
        intro v1 w1 hown1 hb1
        go_wp2
        go_roundw
        case rel =>
          obtain ⟨g, hg, hu⟩ := HST.out
          exact ⟨k + 1, g, _, by omega, by go_num, hown1, by simp; omega, hg, hu.symm.trans hinv.out, hb.trans hb1⟩
        case measure => simp [intOf]; omega
    · obtain rfl : k = s.size := by omega
      have hu := hinv.out.symm.trans (unst_end (bt s) s.size f s.size xs (Nat.le_refl _))
      have hc := Own.conv Try.underlying129 Try.underlying5 Try.underlying9 hown
      obtain ⟨ao, cap, rfl⟩ := hown.shape
      clear hinv
      by_cases hlong : (60000 : Int) < (xs.length : Int)
      · have HR := show Hid _ from unR_long s xs hu (by omega)
        clear hu
        go_wp2
        go_ret2
        exact ⟨ret_sb HR.out, hb⟩
      · have HR := show Hid _ from unR_some s xs hu (by omega)
        clear hu
        go_wp2
        go_ret2
        exact ⟨ret_sb HR.out, hb⟩

theorem impl_unstuff_no (s : ByteArray) (w : World) (h : 120000 < s.size) (hs : s.size ≤ 1048576) :
    Calls Try.prog 64 #[.string s] w fun e w' => e = .returned (.tuple #[.string (unR s).1, .bool (unR s).2]) ∧ Below w.heap.size w w' := by
  have hl : (120000 : Int) < (s.size : Int) := by omega
  have HR := show Hid _ from unR_far s h
  go_enter Try.func64, Try.ntmps64
  go_wp2
  go_ret2
  exact ⟨ret_sb HR.out, Below.refl _ _⟩

theorem impl_unstuff_any (s : ByteArray) (w : World) (hs : s.size ≤ 1048576) :
    Calls Try.prog 64 #[.string s] w fun e w' => e = .returned (.tuple #[.string (unR s).1, .bool (unR s).2]) ∧ Below w.heap.size w w' := by
  by_cases h : 120000 < s.size
  · exact impl_unstuff_no s w h hs
  · exact impl_unstuff s w (by omega)
end Go.Proofs.Ytcikmgdfelejpaa
