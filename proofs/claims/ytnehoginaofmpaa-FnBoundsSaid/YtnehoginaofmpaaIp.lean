/- The contract of the program's CoderPut. -/
import Derived.Test.YtnehoginaofmpaaPt
import Derived.Test.YtnehoginaofmpaaSp
namespace Go.Proofs.Ytnehoginaofmpaa
open Go.RowKit
set_option linter.unusedVariables false

set_option maxRecDepth 100000 in
set_option maxHeartbeats 1600000 in
theorem impl_put_no (lo hi : Int) (s : ByteArray) (bit p : Int) (w : World) (hl : W32 lo) (hh : W32 hi) (hs : s.size ≤ 1048576) (hno : okPut lo hi bit p s.size = false) :
    Calls Try.prog 18 #[cV lo hi s, .int .i64 bit, .int .i64 p] w fun e w' => e = .returned (cV lo hi s) ∧ Below w.heap.size w w' := by
  have HB := hid (fun q => impl_bit bit q)
  have HC := hid (fun q => impl_ch p q)
  unfold okPut at hno
  replace hno := of_decide_eq_false hno
  have BE := hid (((Below.refl w.heap.size w).alloc (Nat.le_refl _) (.cells #[.int .u32 lo, .int .u32 hi, .string s] 35)).alloc (by simp) (.cells #[.int .u32 lo, .int .u32 hi, .string s] 35))
  by_cases h1 : 0 ≤ bit ∧ bit ≤ 1
  · have HB' : Hid (∀ q, Calls Try.prog 48 #[.int .i64 bit] q fun e w' => e = .returned (.bool true) ∧ q = w') := fun q => by have := HB.out q; rw [decide_eq_true h1] at this; exact this
    by_cases h2 : 1 ≤ p ∧ p ≤ 4095
    · have HC' : Hid (∀ q, Calls Try.prog 47 #[.int .i64 p] q fun e w' => e = .returned (.bool true) ∧ q = w') := fun q => by have := HC.out q; rw [show isCh p = true from decide_eq_true h2] at this; exact this
      by_cases h3 : lo ≤ hi
      · have h4 : (60000 : Int) ≤ (s.size : Int) := by
          have : ¬ s.size < 60000 := fun h => hno ⟨h1, h2, h3, h⟩
          omega
        have h5 : ¬ hi < lo := by omega
        clear hno HB HC
        unfold cV
        go_enter Try.func18, Try.ntmps18
        go_wp2_with (first | (go_at_call 48; refine (HB'.out _).mono ?_; rintro e w1 ⟨rfl, rfl⟩) | (go_at_call 47; refine (HC'.out _).mono ?_; rintro e w1 ⟨rfl, rfl⟩))
        refine bodyPost_ret (v := .agg #[.int .u32 lo, .int .u32 hi, .string s]) (by simp [results, Try.results18, go_sem]) rfl ?_
        exact ⟨rfl, BE.out⟩
      · have h5 : hi < lo := by omega
        clear hno HB HC
        unfold cV
        go_enter Try.func18, Try.ntmps18
        go_wp2_with (first | (go_at_call 48; refine (HB'.out _).mono ?_; rintro e w1 ⟨rfl, rfl⟩) | (go_at_call 47; refine (HC'.out _).mono ?_; rintro e w1 ⟨rfl, rfl⟩))
        refine bodyPost_ret (v := .agg #[.int .u32 lo, .int .u32 hi, .string s]) (by simp [results, Try.results18, go_sem]) rfl ?_
        exact ⟨rfl, BE.out⟩
    · have HC' : Hid (∀ q, Calls Try.prog 47 #[.int .i64 p] q fun e w' => e = .returned (.bool false) ∧ q = w') := fun q => by have := HC.out q; rw [show isCh p = false from decide_eq_false h2] at this; exact this
      clear hno HB HC
      unfold cV
      go_enter Try.func18, Try.ntmps18
      go_wp2_with (first | (go_at_call 48; refine (HB'.out _).mono ?_; rintro e w1 ⟨rfl, rfl⟩) | (go_at_call 47; refine (HC'.out _).mono ?_; rintro e w1 ⟨rfl, rfl⟩))
      refine bodyPost_ret (v := .agg #[.int .u32 lo, .int .u32 hi, .string s]) (by simp [results, Try.results18, go_sem]) rfl ?_
      exact ⟨rfl, BE.out⟩
  · have HB' : Hid (∀ q, Calls Try.prog 48 #[.int .i64 bit] q fun e w' => e = .returned (.bool false) ∧ q = w') := fun q => by have := HB.out q; rw [decide_eq_false h1] at this; exact this
    clear hno HB HC
    unfold cV
    go_enter Try.func18, Try.ntmps18
    go_wp2_with (first | (go_at_call 48; refine (HB'.out _).mono ?_; rintro e w1 ⟨rfl, rfl⟩))
    refine bodyPost_ret (v := .agg #[.int .u32 lo, .int .u32 hi, .string s]) (by simp [results, Try.results18, go_sem]) rfl ?_
    exact ⟨rfl, BE.out⟩


theorem three_new (w : World) (a b c d e f x y z : Value) :
    Blk (((w.alloc (.cells #[a, b, c] 35)).alloc (.cells #[d, e, f] 35)).alloc (.cells #[x, y, z] 65)) w.heap.size [a, b, c] 35 ∧ Blk (((w.alloc (.cells #[a, b, c] 35)).alloc (.cells #[d, e, f] 35)).alloc (.cells #[x, y, z] 65)) (w.heap.size + 1) [d, e, f] 35 ∧
    Blk (((w.alloc (.cells #[a, b, c] 35)).alloc (.cells #[d, e, f] 35)).alloc (.cells #[x, y, z] 65)) (w.heap.size + 2) [x, y, z] 65 ∧ Below w.heap.size w (((w.alloc (.cells #[a, b, c] 35)).alloc (.cells #[d, e, f] 35)).alloc (.cells #[x, y, z] 65)) := by
  obtain ⟨h1, h2, h3⟩ := two_new w a b c d e f
  have h4 := (Below.refl _ ((w.alloc (.cells #[a, b, c] 35)).alloc (.cells #[d, e, f] 35))).alloc (Nat.le_refl _) (.cells #[x, y, z] 65)
  refine ⟨h1.below h4 h1.lt, h2.below h4 h2.lt, ?_, h3.trans (h4.mono (Nat.le_of_lt h1.lt))⟩
  have := Blk.new ((w.alloc (.cells #[a, b, c] 35)).alloc (.cells #[d, e, f] 35)) [x, y, z] 65
  rw [show ((w.alloc (.cells #[a, b, c] 35)).alloc (.cells #[d, e, f] 35)).heap.size = w.heap.size + 2 by simp] at this
  exact this

set_option maxRecDepth 100000 in
set_option maxHeartbeats 1600000 in
theorem impl_put_yes (lo hi : Int) (s : ByteArray) (bit p : Int) (w : World) (hl : W32 lo) (hh : W32 hi) (hok : okPut lo hi bit p s.size = true) :
    Calls Try.prog 18 #[cV lo hi s, .int .i64 bit, .int .i64 p] w fun e w' => e = .returned (cV (cPut lo hi bit p).2.1 (cPut lo hi bit p).2.2 (s ++ strOfNums (cPut lo hi bit p).1)) ∧ Below w.heap.size w w' := by
  unfold okPut at hok
  obtain ⟨h1, h2, h3, h4⟩ := of_decide_eq_true hok
  have HB : Hid (∀ q, Calls Try.prog 48 #[.int .i64 bit] q fun e w' => e = .returned (.bool true) ∧ q = w') := fun q => by have := impl_bit bit q; rw [decide_eq_true h1] at this; exact this
  have HC : Hid (∀ q, Calls Try.prog 47 #[.int .i64 p] q fun e w' => e = .returned (.bool true) ∧ q = w') := fun q => by have := impl_ch p q; rw [show isCh p = true from decide_eq_true h2] at this; exact this
  have h5 : ¬ hi < lo := by omega
  have h6 : decide ((60000 : Int) ≤ (s.size : Int)) = false := decide_eq_false (by omega)
  obtain ⟨n1, n2, n3, n4⟩ := three_new w (.int .u32 lo) (.int .u32 hi) (.string s) (.int .u32 0) (.int .u32 0) (.string ⟨#[]⟩) (.int .u32 lo) (.int .u32 hi) (.slice none 0 0)
  have N1 := hid n1
  have N2 := hid n2
  have N4 := hid n4
  have HPA := hid (put_any (w.heap.size + 2) lo hi bit p (.slice none 0 0) [] _ hl hh (by omega) (by simp) ⟨n3, Own.nil _ _ _ _ (Nat.succ_le_of_lt n3.lt)⟩)
  have HPL := hid (show (cPut lo hi bit p).1.length ≤ 4 from cN_len _ _)
  have hs1 := hid h4
  generalize cPut lo hi bit p = PP at *
  obtain ⟨PL, PX, PY⟩ := PP
  clear hok h1 h2 h4 hl hh n1 n2 n3 n4
  unfold cV
  go_enter Try.func18, Try.ntmps18
  go_wp2_with (first | (go_at_call 48; refine (HB.out _).mono ?_; rintro e w1 ⟨rfl, rfl⟩) | (go_at_call 47; refine (HC.out _).mono ?_; rintro e w1 ⟨rfl, rfl⟩))
  refine HPA.out.mono ?_
  generalize ((w.alloc (.cells #[.int .u32 lo, .int .u32 hi, .string s] 35)).alloc (.cells #[.int .u32 0, .int .u32 0, .string ⟨#[]⟩] 35)).alloc (.cells #[.int .u32 lo, .int .u32 hi, .slice none 0 0] 65) = w0 at *
  rintro e w1 ⟨rfl, ⟨v', hst⟩, hb1⟩
  have M1 := hid (N1.out.below hb1 (by omega))
  have M2 := hid (N2.out.below hb1 (by omega))
  have M4 := hid (N4.out.trans (hb1.mono (by omega)))
  obtain ⟨ao, cap, rfl⟩ := hst.2.shape
  have HO := hid hst.2
  simp only [List.nil_append] at hst HO
  have hc := hst.2.conv Try.underlying22 Try.underlying5 Try.underlying9
  have q2 := M1.out.cell (i := 2) rfl
  have r0 := M2.out.cell (i := 0) rfl
  have r1 := M2.out.cell (i := 1) rfl
  have r2 := M2.out.cell (i := 2) rfl
  have y0 := M2.out.free 0
  have y1 := M2.out.free 1
  have y2 := M2.out.free 2
  have p0 := hst.1.cell (i := 0) rfl
  have p1 := hst.1.cell (i := 1) rfl
  have p2 := hst.1.cell (i := 2) rfl
  have hsz : ¬ 9223372036854775807 < s.size + (strOfNums PL).size := by
    have a1 := hs1.out
    have a2 : PL.length ≤ 4 := HPL.out
    rw [strOf_size]
    omega
  clear hst hb1 HPA N1 N2 N4
  go_wp2_with fail
  refine bodyPost_ret (v := .agg #[.int .u32 PX, .int .u32 PY, .string (s ++ strOfNums PL)]) (by simp [results, Try.results18, go_sem, r0, r1, r2]) rfl ?_
  exact ⟨rfl, ((M4.out.setCell (p := ⟨w.heap.size + 1, 0, none⟩) (Nat.le_succ _) _).setCell (p := ⟨w.heap.size + 1, 1, none⟩) (Nat.le_succ _) _).setCell (p := ⟨w.heap.size + 1, 2, none⟩) (Nat.le_succ _) _⟩

theorem impl_put (lo hi : Int) (s : ByteArray) (bit p : Int) (w : World) (hl : W32 lo) (hh : W32 hi) (hs : s.size ≤ 1048576) :
    Calls Try.prog 18 #[cV lo hi s, .int .i64 bit, .int .i64 p] w fun e w' => e = .returned (cRes lo hi s bit p) ∧ Below w.heap.size w w' := by
  unfold cRes
  by_cases h : okPut lo hi bit p s.size = true
  · rw [if_pos h]
    exact impl_put_yes lo hi s bit p w hl hh h
  · rw [if_neg h]
    exact impl_put_no lo hi s bit p w hl hh hs (by simpa using h)
end Go.Proofs.Ytnehoginaofmpaa
