/- CoderStart and CoderEnd of both sides, and their laws. -/
import Derived.Test.YtokmkijpfmopiaaCo
namespace Go.Proofs.Ytokmkijpfmopiaa
open Go.RowKit
set_option linter.unusedVariables false

/-- A coder as a value. -/
def cV (lo hi : Int) (s : ByteArray) : Value := .agg #[.int .u32 lo, .int .u32 hi, .string s]
theorem cat_size (a b : ByteArray) : (a ++ b).size = a.size + b.size := by simp
theorem strOf_size (a : List Int) : (strOfNums a).size = a.length := by simp [strOfNums, ByteArray.size]

theorem spec_start (s : ByteArray) (w : World) :
    Calls Try.prog 13 #[.string s] w fun e w' => e = .returned (cV 0 4294967295 s) ∧ Below w.heap.size w w' := by
  unfold cV
  go_enter Try.func13, Try.ntmps13
  go_wp2_with fail
  refine bodyPost_ret (v := .agg #[.int .u32 0, .int .u32 4294967295, .string s]) (by simp [results, Try.results13, go_sem]) rfl ?_
  exact ⟨rfl, (Below.refl w.heap.size w).alloc (Nat.le_refl _) _⟩
theorem impl_widest (w : World) :
    Calls Try.prog 32 #[] w fun e w' => e = .returned (.agg #[.int .u32 0, .int .u32 4294967295]) ∧ Below w.heap.size w w' := by
  go_enter Try.func32, Try.ntmps32
  go_wp2_with fail
  refine bodyPost_ret (v := .agg #[.int .u32 0, .int .u32 4294967295]) (by simp [results, Try.results32, go_sem]) rfl ?_
  exact ⟨rfl, (Below.refl w.heap.size w).alloc (Nat.le_refl _) _⟩
theorem impl_start (s : ByteArray) (w : World) :
    Calls Try.prog 14 #[.string s] w fun e w' => e = .returned (cV 0 4294967295 s) ∧ Below w.heap.size w w' := by
  unfold cV
  have HW := hid (fun q => impl_widest q)
  have HB0 := hid ((Below.refl w.heap.size w).alloc (Nat.le_refl _) (.cells #[.int .u32 0, .int .u32 0, .string ⟨#[]⟩] 29))
  have HN := hid (Blk.new w [.int .u32 0, .int .u32 0, .string ⟨#[]⟩] 29)
  go_enter Try.func14, Try.ntmps14
  go_wp2_with fail
  refine (HW.out _).mono ?_
  generalize w.alloc (.cells #[.int .u32 0, .int .u32 0, .string ⟨#[]⟩] 29) = W0 at *
  rintro e w1 ⟨rfl, hb1⟩
  have N1 := hid (HN.out.below hb1 HN.out.lt)
  have B1 := hid (HB0.out.trans (hb1.mono HB0.out.size))
  have q0 := N1.out.cell (i := 0) rfl
  have q1 := N1.out.cell (i := 1) rfl
  have q2 := N1.out.cell (i := 2) rfl
  have z0 := N1.out.free 0
  have z1 := N1.out.free 1
  have z2 := N1.out.free 2
  have hlt : w.heap.size < w1.heap.size := N1.out.lt
  have hne : ¬ w.heap.size = w1.heap.size := Nat.ne_of_lt N1.out.lt
  clear hb1 HN HB0
  go_wp2_with fail
  refine bodyPost_ret (v := .agg #[.int .u32 0, .int .u32 4294967295, .string s]) (by simp [results, Try.results14, go_sem, q0, q1, q2, hlt]) rfl ?_
  refine ⟨rfl, ?_⟩
  have b3 := ((B1.out.setCell (p := ⟨w.heap.size, 0, none⟩) (Nat.le_refl _) (.int .u32 0)).setCell (p := ⟨w.heap.size, 1, none⟩) (Nat.le_refl _) (.int .u32 4294967295)).setCell (p := ⟨w.heap.size, 2, none⟩) (Nat.le_refl _) (.string s)
  exact b3.alloc b3.size _
theorem eq_coder (lo hi : Int) (s : ByteArray) (w : World) :
    Calls Try.prog 15 #[cV lo hi s, cV lo hi s] w fun e w' => e = .returned (.bool true) ∧ Below w.heap.size w w' := by
  unfold cV
  go_enter Try.func15, Try.ntmps15
  go_wp2_with fail
  go_ret
  exact ⟨rfl, (((Below.refl w.heap.size w).alloc (Nat.le_refl _) _).alloc (by simp) _)⟩

set_option maxRecDepth 100000 in
set_option maxHeartbeats 800000 in
theorem law_start (s : ByteArray) (w : World) (hm : s.size ≤ 9223372036854775807) :
    Calls Try.prog 4 #[.string s] w fun e w' => e = .returned (.bool true) ∧ Below w.heap.size w w' := by
  have HS := hid (fun q => spec_start s q)
  have HI := hid (fun q => impl_start s q)
  have HQ := hid (fun q => eq_coder 0 4294967295 s q)
  unfold cV at *
  by_cases hs : (1048576 : Int) < (s.size : Int)
  · clear HS HI HQ
    go_enter Try.func4, Try.ntmps4
    go_wp2_with fail
    go_ret
    exact ⟨rfl, Below.refl _ _⟩
  · have hd : decide ((1048576 : Int) < (s.size : Int)) = false := decide_eq_false hs
    clear hs hm
    go_enter Try.func4, Try.ntmps4
    go_wp2_with fail
    refine (HS.out _).mono ?_
    rintro e w3 ⟨rfl, hb3⟩
    have C3 := hid (Blk.new w3 [.int .u32 0, .int .u32 4294967295, .string s] 29)
    have B3 := hid (hb3.trans (((Below.refl w3.heap.size w3).alloc (Nat.le_refl _) (.cells #[.int .u32 0, .int .u32 4294967295, .string s] 29)).mono hb3.size))
    clear hb3
    go_wp2_with fail
    refine (HI.out _).mono ?_
    generalize w3.alloc (.cells #[.int .u32 0, .int .u32 4294967295, .string s] 29) = W3 at *
    generalize w3.heap.size = G3 at *
    rintro e w5 ⟨rfl, hb5⟩
    have hz5 := hid ((Below.refl w5.heap.size w5).alloc (Nat.le_refl _) (.cells #[.int .u32 0, .int .u32 4294967295, .string s] 29))
    have C5 := hid ((C3.out.below hb5 C3.out.lt).below hz5.out (C3.out.below hb5 C3.out.lt).lt)
    have B5 := hid ((B3.out.trans (hb5.mono B3.out.size)).trans (hz5.out.mono (Nat.le_trans B3.out.size hb5.size)))
    have q0 := C5.out.cell (i := 0) rfl
    have q1 := C5.out.cell (i := 1) rfl
    have q2 := C5.out.cell (i := 2) rfl
    clear hb5 C3 B3 hz5
    go_wp2_with fail
    refine (HQ.out _).mono ?_
    generalize w5.alloc (.cells #[.int .u32 0, .int .u32 4294967295, .string s] 29) = W5 at *
    rintro e w6 ⟨rfl, hb6⟩
    have B6 := hid (B5.out.trans (hb6.mono B5.out.size))
    clear hb6
    go_wp2_with fail
    go_ret
    exact ⟨rfl, B6.out⟩

def wordBytes (x : Int) : List Int := [x / 16777216, x / 65536 % 256, x / 256 % 256, x % 256]
theorem conv4 (w : World) (a b c d : Int) : Sem.run Try.prog (convert 22 9 (.slice (some ⟨w.heap.size, 0, none⟩) 4 4)) (w.alloc (.cells #[.int .u8 a, .int .u8 b, .int .u8 c, .int .u8 d] 5)) =
    .ok (.string (strOfNums [a, b, c, d])) (w.alloc (.cells #[.int .u8 a, .int .u8 b, .int .u8 c, .int .u8 d] 5)) := by
  refine run_convert_bytes_arg _ 22 5 Try.underlying22 Try.underlying5 _ 0 4 4 [a, b, c, d] rfl ?_ 9 Try.underlying9
  intro i hi
  match i, hi with
  | 0, _ => simp
  | 1, _ => simp
  | 2, _ => simp
  | 3, _ => simp
set_option maxHeartbeats 400000 in
theorem spec_putWord (x : Int) (w : World) (h0 : 0 ≤ x) (h1 : x ≤ 4294967295) :
    Calls Try.prog 33 #[.int .u32 x] w fun e w' => e = .returned (.string (strOfNums (wordBytes x))) ∧ Below w.heap.size w w' := by
  have hc := conv4 w
  go_enter Try.func33, Try.ntmps33
  go_wp2
  go_ret
  exact ⟨rfl, (Below.refl _ _).alloc (Nat.le_refl _) _⟩
set_option maxHeartbeats 400000 in
theorem impl_putWord (x : Int) (w : World) (h0 : 0 ≤ x) (h1 : x ≤ 4294967295) :
    Calls Try.prog 34 #[.int .u32 x] w fun e w' => e = .returned (.string (strOfNums (wordBytes x))) ∧ Below w.heap.size w w' := by
  have hc := conv4 w
  go_enter Try.func34, Try.ntmps34
  go_wp2
  go_ret
  exact ⟨rfl, (Below.refl _ _).alloc (Nat.le_refl _) _⟩

set_option maxRecDepth 100000 in
set_option maxHeartbeats 1600000 in
theorem spec_end (lo hi : Int) (s : ByteArray) (w : World) (hl : W32 lo) (hs : s.size ≤ 1048576) :
    Calls Try.prog 19 #[cV lo hi s] w fun e w' => e = .returned (.string (s ++ strOfNums (wordBytes lo))) ∧ Below w.heap.size w w' := by
  have HP := hid (fun q => spec_putWord lo q hl.1 (Int.le_of_lt_add_one hl.2))
  have HB0 := hid ((Below.refl w.heap.size w).alloc (Nat.le_refl _) (.cells #[.int .u32 lo, .int .u32 hi, .string s] 29))
  have HN := hid (Blk.new w [.int .u32 lo, .int .u32 hi, .string s] 29)
  have hsz : ¬ 9223372036854775807 < s.size + (strOfNums (wordBytes lo)).size := by
    rw [strOf_size]
    simp [wordBytes]
    omega
  generalize strOfNums (wordBytes lo) = T at *
  clear hl hs
  unfold cV
  have q0 := HN.out.cell (i := 0) rfl
  have q2 := HN.out.cell (i := 2) rfl
  go_enter Try.func19, Try.ntmps19
  go_wp2_with fail
  generalize w.alloc (.cells #[.int .u32 lo, .int .u32 hi, .string s] 29) = W0 at *
  go_region_with (first | (go_at_call 33; refine (HP.out _).mono ?_; rintro e w1 ⟨rfl, hb1⟩; have p2 := ((HN.out.below (below_drewN _ 1) HN.out.lt).below hb1 (HN.out.below (below_drewN _ 1) HN.out.lt).lt).cell (i := 2) rfl))
  all_goals
    have B1 := hid ((belowN HB0.out 1).trans (hb1.mono (HB0.out.size)))
    clear hb1
    go_wp2_with fail
    go_ret
    exact ⟨rfl, B1.out⟩

set_option maxRecDepth 100000 in
set_option maxHeartbeats 1600000 in
theorem impl_end (lo hi : Int) (s : ByteArray) (w : World) (hl : W32 lo) (hs : s.size ≤ 1048576) :
    Calls Try.prog 21 #[cV lo hi s] w fun e w' => e = .returned (.string (s ++ strOfNums (wordBytes lo))) ∧ Below w.heap.size w w' := by
  have HP := hid (fun q => impl_putWord lo q hl.1 (Int.le_of_lt_add_one hl.2))
  have HB0 := hid ((Below.refl w.heap.size w).alloc (Nat.le_refl _) (.cells #[.int .u32 lo, .int .u32 hi, .string s] 29))
  have HN := hid (Blk.new w [.int .u32 lo, .int .u32 hi, .string s] 29)
  have hsz : ¬ 9223372036854775807 < s.size + (strOfNums (wordBytes lo)).size := by
    rw [strOf_size]
    simp [wordBytes]
    omega
  generalize strOfNums (wordBytes lo) = T at *
  clear hl hs
  unfold cV
  have q0 := HN.out.cell (i := 0) rfl
  have q2 := HN.out.cell (i := 2) rfl
  go_enter Try.func21, Try.ntmps21
  go_wp2_with fail
  generalize w.alloc (.cells #[.int .u32 lo, .int .u32 hi, .string s] 29) = W0 at *
  go_region_with (first | (go_at_call 34; refine (HP.out _).mono ?_; rintro e w1 ⟨rfl, hb1⟩; have p2 := ((HN.out.below (below_drewN _ 1) HN.out.lt).below hb1 (HN.out.below (below_drewN _ 1) HN.out.lt).lt).cell (i := 2) rfl))
  all_goals
    have B1 := hid ((belowN HB0.out 1).trans (hb1.mono (HB0.out.size)))
    clear hb1
    go_wp2_with fail
    go_ret
    exact ⟨rfl, B1.out⟩
end Go.Proofs.Ytokmkijpfmopiaa
