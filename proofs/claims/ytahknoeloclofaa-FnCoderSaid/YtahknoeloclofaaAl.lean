/- Contracts of the tests of lists, of both sides; isFull; widestCoder; CoderEnd; PutWord. -/
import Derived.Test.YtahknoeloclofaaAp
import Derived.Test.YtahknoeloclofaaInts
import Derived.Test.YtahknoeloclofaaPt
namespace Go.Proofs.Ytahknoeloclofaa
open Go.RowKit
set_option linter.unusedVariables false

/-- Do the first k numbers pass? -/
def passTo (f : Int → Bool) (xs : List Int) (k : Nat) : Prop := ∀ j, j < k → f (xs.getD j 0) = true
theorem pass_all {f : Int → Bool} {xs : List Int} (h : passTo f xs xs.length) : ∀ x ∈ xs, f x = true := by
  intro x hx
  obtain ⟨j, hj, rfl⟩ := List.getElem_of_mem hx
  have := h j hj
  rwa [List.getD_eq_getElem?_getD, List.getElem?_eq_getElem hj] at this
theorem pass_not {f : Int → Bool} {xs : List Int} {k : Nat} (hk : k < xs.length) (h : f (xs.getD k 0) = false) : ¬ ∀ x ∈ xs, f x = true := by
  intro hall
  have := hall _ (List.getElem_mem hk)
  rw [List.getD_eq_getElem?_getD, List.getElem?_eq_getElem hk] at h
  simp only [Option.getD_some] at h
  rw [h] at this
  cases this
def isB (x : Int) : Bool := decide (0 ≤ x ∧ x ≤ 1)
theorem bitsOk_iff (bs : List Int) : bitsOk bs ↔ ∀ x ∈ bs, isB x = true := by
  unfold bitsOk isB
  simp

set_option maxHeartbeats 800000 in
theorem are_bits (ao : Option Addr) (cap : Nat) (xs : List Int) (w : World) (hn : xs.length ≤ 1048576) (hv : View .i64 w ao xs.length xs) :
    Calls Try.prog 37 #[.slice ao xs.length cap] w fun e w' => e = .returned (.bool (decide (∀ x ∈ xs, isB x = true))) ∧ w = w' := by
  have HV := hid hv
  have HF := hid (fun (y : Int) (q : World) => show Calls Try.prog 49 #[.int .i64 y] q fun e w' => e = .returned (.bool (isB y)) ∧ q = w' from impl_bit y q)
  obtain ⟨R, hR⟩ : ∃ R, decide (∀ x ∈ xs, isB x = true) = R := ⟨_, rfl⟩
  have HR := hid hR
  rw [hR]
  clear hR hv
  go_enter Try.func37, Try.ntmps37
  go_wp2_with fail
  go_loopw [7] (fun i wr => ∃ k : Nat, k ≤ xs.length ∧ i = .int .i64 k ∧ wr = w ∧ Hid (passTo isB xs k)) (fun i _ => xs.length - (intOf i).toNat)
  case atStart => exact ⟨0, by omega, rfl, rfl, fun j hj => by omega⟩
  case round =>
    obtain ⟨k, hk, rfl, rfl, hp⟩ := hrel
    by_cases hlt : k < xs.length
    · obtain ⟨b, off, rfl, hc⟩ := HV.out.2 k hlt
      have hlt' : (k : Int) < (xs.length : Int) := by omega
      have HN := hid (fun h => pass_not (f := isB) (k := k) hlt h)
      have HP := hid (fun (h : isB (xs.getD k 0) = true) => (fun j hj => by
        by_cases e : j = k
        · rw [e]; exact h
        · exact hp.out j (by omega) : passTo isB xs (k + 1)))
      have HK := HF.out (xs.getD k 0) wr
      generalize xs.getD k 0 = X at *
      cases hX : isB X with
      | true =>
        rw [hX] at HK
        have HK2 := hid HK
        have HX := hid hX
        clear HK hX
        go_wp2_with fail
        refine HK2.out.mono ?_
        rintro e w1 ⟨rfl, rfl⟩
        go_wp2_with fail
        go_roundw
        case rel => exact ⟨k + 1, by omega, by go_num, by first | rfl | trivial, HP.out HX.out⟩
        case measure => simp [intOf]; omega
      | false =>
        rw [hX] at HK
        have HK2 := hid HK
        have HX := hid hX
        clear HK hX
        go_wp2_with fail
        refine HK2.out.mono ?_
        rintro e w1 ⟨rfl, rfl⟩
        go_wp2_with fail
        go_ret
        exact ⟨ret_bool (by rw [← HR.out]; exact (decide_eq_false (HN.out HX.out)).symm), rfl⟩
    · obtain rfl : k = xs.length := by omega
      have HE := hid (decide_eq_true (pass_all hp.out))
      clear hlt hk
      go_wp2_with fail
      go_ret
      exact ⟨ret_bool (by rw [← HR.out]; exact HE.out.symm), rfl⟩

set_option maxHeartbeats 800000 in
theorem are_chances (ao : Option Addr) (cap : Nat) (xs : List Int) (w : World) (hn : xs.length ≤ 1048576) (hv : View .i64 w ao xs.length xs) :
    Calls Try.prog 38 #[.slice ao xs.length cap] w fun e w' => e = .returned (.bool (decide (∀ x ∈ xs, isCh x = true))) ∧ w = w' := by
  have HV := hid hv
  have HF := hid (fun (y : Int) (q : World) => impl_ch y q)
  obtain ⟨R, hR⟩ : ∃ R, decide (∀ x ∈ xs, isCh x = true) = R := ⟨_, rfl⟩
  have HR := hid hR
  rw [hR]
  clear hR hv
  go_enter Try.func38, Try.ntmps38
  go_wp2_with fail
  go_loopw [7] (fun i wr => ∃ k : Nat, k ≤ xs.length ∧ i = .int .i64 k ∧ wr = w ∧ Hid (passTo isCh xs k)) (fun i _ => xs.length - (intOf i).toNat)
  case atStart => exact ⟨0, by omega, rfl, rfl, fun j hj => by omega⟩
  case round =>
    obtain ⟨k, hk, rfl, rfl, hp⟩ := hrel
    by_cases hlt : k < xs.length
    · obtain ⟨b, off, rfl, hc⟩ := HV.out.2 k hlt
      have hlt' : (k : Int) < (xs.length : Int) := by omega
      have HN := hid (fun h => pass_not (f := isCh) (k := k) hlt h)
      have HP := hid (fun (h : isCh (xs.getD k 0) = true) => (fun j hj => by
        by_cases e : j = k
        · rw [e]; exact h
        · exact hp.out j (by omega) : passTo isCh xs (k + 1)))
      have HK := HF.out (xs.getD k 0) wr
      generalize xs.getD k 0 = X at *
      cases hX : isCh X with
      | true =>
        rw [hX] at HK
        have HK2 := hid HK
        have HX := hid hX
        clear HK hX
        go_wp2_with fail
        refine HK2.out.mono ?_
        rintro e w1 ⟨rfl, rfl⟩
        go_wp2_with fail
        go_roundw
        case rel => exact ⟨k + 1, by omega, by go_num, by first | rfl | trivial, HP.out HX.out⟩
        case measure => simp [intOf]; omega
      | false =>
        rw [hX] at HK
        have HK2 := hid HK
        have HX := hid hX
        clear HK hX
        go_wp2_with fail
        refine HK2.out.mono ?_
        rintro e w1 ⟨rfl, rfl⟩
        go_wp2_with fail
        go_ret
        exact ⟨ret_bool (by rw [← HR.out]; exact (decide_eq_false (HN.out HX.out)).symm), rfl⟩
    · obtain rfl : k = xs.length := by omega
      have HE := hid (decide_eq_true (pass_all hp.out))
      clear hlt hk
      go_wp2_with fail
      go_ret
      exact ⟨ret_bool (by rw [← HR.out]; exact HE.out.symm), rfl⟩

set_option maxHeartbeats 800000 in
theorem spec_bits (ao : Option Addr) (cap : Nat) (xs : List Int) (w : World) (hn : xs.length ≤ 1048576) (hv : View .i64 w ao xs.length xs) :
    Calls Try.prog 43 #[.slice ao xs.length cap] w fun e w' => e = .returned (.bool (decide (∀ x ∈ xs, isB x = true))) ∧ w = w' := by
  have HV := hid hv
  have HF := hid (fun (y : Int) (q : World) => show Calls Try.prog 51 #[.int .i64 y, .int .i64 0, .int .i64 1] q fun e w' => e = .returned (.bool (isB y)) ∧ q = w' from spec_in y 0 1 q)
  obtain ⟨R, hR⟩ : ∃ R, decide (∀ x ∈ xs, isB x = true) = R := ⟨_, rfl⟩
  have HR := hid hR
  rw [hR]
  clear hR hv
  go_enter Try.func43, Try.ntmps43
  go_wp2_with fail
  go_loopw [3] (fun i wr => ∃ k : Nat, k ≤ xs.length ∧ i = .int .i64 k ∧ wr = w ∧ Hid (passTo isB xs k)) (fun i _ => xs.length - (intOf i).toNat)
  case atStart => exact ⟨0, by omega, rfl, rfl, fun j hj => by omega⟩
  case round =>
    obtain ⟨k, hk, rfl, rfl, hp⟩ := hrel
    by_cases hlt : k < xs.length
    · obtain ⟨b, off, rfl, hc⟩ := HV.out.2 k hlt
      have hlt' : (k : Int) < (xs.length : Int) := by omega
      have HN := hid (fun h => pass_not (f := isB) (k := k) hlt h)
      have HP := hid (fun (h : isB (xs.getD k 0) = true) => (fun j hj => by
        by_cases e : j = k
        · rw [e]; exact h
        · exact hp.out j (by omega) : passTo isB xs (k + 1)))
      have HK := HF.out (xs.getD k 0) wr
      generalize xs.getD k 0 = X at *
      cases hX : isB X with
      | true =>
        rw [hX] at HK
        have HK2 := hid HK
        have HX := hid hX
        clear HK hX
        go_wp2_with fail
        refine HK2.out.mono ?_
        rintro e w1 ⟨rfl, rfl⟩
        go_wp2_with fail
        go_roundw
        case rel => exact ⟨k + 1, by omega, by go_num, by first | rfl | trivial, HP.out HX.out⟩
        case measure => simp [intOf]; omega
      | false =>
        rw [hX] at HK
        have HK2 := hid HK
        have HX := hid hX
        clear HK hX
        go_wp2_with fail
        refine HK2.out.mono ?_
        rintro e w1 ⟨rfl, rfl⟩
        go_wp2_with fail
        go_ret
        exact ⟨ret_bool (by rw [← HR.out]; exact (decide_eq_false (HN.out HX.out)).symm), rfl⟩
    · obtain rfl : k = xs.length := by omega
      have HE := hid (decide_eq_true (pass_all hp.out))
      clear hlt hk
      go_wp2_with fail
      go_ret
      exact ⟨ret_bool (by rw [← HR.out]; exact HE.out.symm), rfl⟩

theorem full_any (b : Nat) (lo hi : Int) (v : Value) (xs : List Int) (w : World) (hx : xs.length ≤ 1000000) (hW : Wst w b [] 65 lo hi v xs) :
    Calls Try.prog 40 #[.pointer (some ⟨b, 0, none⟩)] w fun e w' => e = .returned (.bool (decide ((60000 : Int) ≤ (xs.length : Int)))) ∧ w = w' := by
  have q2 := hW.1.cell (i := 2) rfl
  obtain ⟨ao, cap, rfl⟩ := hW.2.shape
  clear hW hx
  go_enter Try.func40, Try.ntmps40
  go_wp2_with fail
  go_ret
  exact ⟨rfl, rfl⟩
theorem impl_widest (w : World) :
    Calls Try.prog 39 #[] w fun e w' => e = .returned (.agg #[.int .u32 0, .int .u32 4294967295]) ∧ Below w.heap.size w w' := by
  go_enter Try.func39, Try.ntmps39
  go_wp2_with fail
  refine bodyPost_ret (v := .agg #[.int .u32 0, .int .u32 4294967295]) (by simp [results, Try.results39, go_sem]) rfl ?_
  exact ⟨rfl, (Below.refl w.heap.size w).alloc (Nat.le_refl _) _⟩
theorem spec_start (s : ByteArray) (w : World) :
    Calls Try.prog 44 #[.string s] w fun e w' => e = .returned (cV 0 4294967295 s) ∧ Below w.heap.size w w' := by
  unfold cV
  go_enter Try.func44, Try.ntmps44
  go_wp2_with fail
  refine bodyPost_ret (v := .agg #[.int .u32 0, .int .u32 4294967295, .string s]) (by simp [results, Try.results44, go_sem]) rfl ?_
  exact ⟨rfl, (Below.refl w.heap.size w).alloc (Nat.le_refl _) _⟩
theorem conv4 (w : World) (a b c d : Int) : Sem.run Try.prog (convert 22 9 (.slice (some ⟨w.heap.size, 0, none⟩) 4 4)) (w.alloc (.cells #[.int .u8 a, .int .u8 b, .int .u8 c, .int .u8 d] 5)) =
    .ok (.string (strOfNums [a, b, c, d])) (w.alloc (.cells #[.int .u8 a, .int .u8 b, .int .u8 c, .int .u8 d] 5)) := by
  refine run_convert_bytes_arg _ 22 5 Try.underlying22 Try.underlying5 _ 0 4 4 [a, b, c, d] rfl ?_ 9 Try.underlying9
  intro i hi
  match i, hi with
  | 0, _ => simp
  | 1, _ => simp
  | 2, _ => simp
  | 3, _ => simp
set_option maxHeartbeats 400000 in
theorem spec_putWord (x : Int) (w : World) (h0 : 0 ≤ x) (h1 : x ≤ 4294967295) :
    Calls Try.prog 68 #[.int .u32 x] w fun e w' => e = .returned (.string (strOfNums (wordBytes x))) ∧ Below w.heap.size w w' := by
  have hc := conv4 w
  go_enter Try.func68, Try.ntmps68
  go_wp2
  go_ret
  exact ⟨rfl, (Below.refl _ _).alloc (Nat.le_refl _) _⟩
set_option maxHeartbeats 400000 in
theorem impl_putWord (x : Int) (w : World) (h0 : 0 ≤ x) (h1 : x ≤ 4294967295) :
    Calls Try.prog 54 #[.int .u32 x] w fun e w' => e = .returned (.string (strOfNums (wordBytes x))) ∧ Below w.heap.size w w' := by
  have hc := conv4 w
  go_enter Try.func54, Try.ntmps54
  go_wp2
  go_ret
  exact ⟨rfl, (Below.refl _ _).alloc (Nat.le_refl _) _⟩

set_option maxRecDepth 100000 in
set_option maxHeartbeats 1600000 in
theorem spec_end (lo hi : Int) (s : ByteArray) (w : World) (hl : W32 lo) (hs : s.size ≤ 1048576) :
    Calls Try.prog 46 #[cV lo hi s] w fun e w' => e = .returned (.string (s ++ strOfNums (wordBytes lo))) ∧ Below w.heap.size w w' := by
  have HP := hid (fun q => spec_putWord lo q hl.1 (Int.le_of_lt_add_one hl.2))
  have HB0 := hid ((Below.refl w.heap.size w).alloc (Nat.le_refl _) (.cells #[.int .u32 lo, .int .u32 hi, .string s] 35))
  have HN := hid (Blk.new w [.int .u32 lo, .int .u32 hi, .string s] 35)
  have hsz : ¬ 9223372036854775807 < s.size + (strOfNums (wordBytes lo)).size := by
    rw [strOf_size]
    simp [wordBytes]
    omega
  generalize strOfNums (wordBytes lo) = T at *
  clear hl hs
  unfold cV
  have q0 := HN.out.cell (i := 0) rfl
  have q2 := HN.out.cell (i := 2) rfl
  go_enter Try.func46, Try.ntmps46
  go_wp2_with fail
  generalize w.alloc (.cells #[.int .u32 lo, .int .u32 hi, .string s] 35) = W0 at *
  go_region_with (first | (go_at_call 68; refine (HP.out _).mono ?_; rintro e w1 ⟨rfl, hb1⟩; have p2 := ((HN.out.below (below_drewN _ 1) HN.out.lt).below hb1 (HN.out.below (below_drewN _ 1) HN.out.lt).lt).cell (i := 2) rfl))
  all_goals
    have B1 := hid ((belowN HB0.out 1).trans (hb1.mono (HB0.out.size)))
    clear hb1
    go_wp2_with fail
    go_ret
    exact ⟨rfl, B1.out⟩

set_option maxRecDepth 100000 in
set_option maxHeartbeats 1600000 in
theorem impl_end (lo hi : Int) (s : ByteArray) (w : World) (hl : W32 lo) (hs : s.size ≤ 1048576) :
    Calls Try.prog 20 #[cV lo hi s] w fun e w' => e = .returned (.string (s ++ strOfNums (wordBytes lo))) ∧ Below w.heap.size w w' := by
  have HP := hid (fun q => impl_putWord lo q hl.1 (Int.le_of_lt_add_one hl.2))
  have HB0 := hid ((Below.refl w.heap.size w).alloc (Nat.le_refl _) (.cells #[.int .u32 lo, .int .u32 hi, .string s] 35))
  have HN := hid (Blk.new w [.int .u32 lo, .int .u32 hi, .string s] 35)
  have hsz : ¬ 9223372036854775807 < s.size + (strOfNums (wordBytes lo)).size := by
    rw [strOf_size]
    simp [wordBytes]
    omega
  generalize strOfNums (wordBytes lo) = T at *
  clear hl hs
  unfold cV
  have q0 := HN.out.cell (i := 0) rfl
  have q2 := HN.out.cell (i := 2) rfl
  go_enter Try.func20, Try.ntmps20
  go_wp2_with fail
  generalize w.alloc (.cells #[.int .u32 lo, .int .u32 hi, .string s] 35) = W0 at *
  go_region_with (first | (go_at_call 54; refine (HP.out _).mono ?_; rintro e w1 ⟨rfl, hb1⟩; have p2 := ((HN.out.below (below_drewN _ 1) HN.out.lt).below hb1 (HN.out.below (below_drewN _ 1) HN.out.lt).lt).cell (i := 2) rfl))
  all_goals
    have B1 := hid ((belowN HB0.out 1).trans (hb1.mono (HB0.out.size)))
    clear hb1
    go_wp2_with fail
    go_ret
    exact ⟨rfl, B1.out⟩
end Go.Proofs.Ytahknoeloclofaa
