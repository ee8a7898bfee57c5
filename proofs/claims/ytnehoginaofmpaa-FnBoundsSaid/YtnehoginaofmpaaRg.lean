/- The contract of the program's ReaderGet. -/
import Derived.Test.YtnehoginaofmpaaRd
namespace Go.Proofs.Ytnehoginaofmpaa
open Go.RowKit
set_option linter.unusedVariables false

/-- May the reader go on? -/
def okGet (lo hi i p : Int) : Bool := decide ((1 ≤ p ∧ p ≤ 4095) ∧ lo ≤ hi ∧ 0 ≤ i ∧ i ≤ 60008)
/-- What ReaderGet answers. -/
def rRes (lo hi co : Int) (s : ByteArray) (i p : Int) : Value :=
  if okGet lo hi i p = true then .tuple #[rV (rP lo hi co p).2.1 (rP lo hi co p).2.2 (rC co s i (rP lo hi co p).1.length) s (i + (rP lo hi co p).1.length), .int .i64 (rBit lo hi co p)] else .tuple #[rV lo hi co s i, .int .i64 (-1)]

theorem new5 (w : World) (a b c d e a' b' c' d' e' : Value) : Blk ((w.alloc (.cells #[a, b, c, d, e] 48)).alloc (.cells #[a', b', c', d', e'] 48)) w.heap.size [a, b, c, d, e] 48 ∧ Blk ((w.alloc (.cells #[a, b, c, d, e] 48)).alloc (.cells #[a', b', c', d', e'] 48)) (w.heap.size + 1) [a', b', c', d', e'] 48 ∧ Below w.heap.size w ((w.alloc (.cells #[a, b, c, d, e] 48)).alloc (.cells #[a', b', c', d', e'] 48)) := by
  refine ⟨(Blk.new w [a, b, c, d, e] 48).below ((Below.refl (w.alloc (.cells #[a, b, c, d, e] 48)).heap.size (w.alloc (.cells #[a, b, c, d, e] 48))).alloc (Nat.le_refl _) (.cells #[a', b', c', d', e'] 48)) (by simp), ?_, ((Below.refl w.heap.size w).alloc (Nat.le_refl _) _).alloc (by simp) _⟩
  have := Blk.new (w.alloc (.cells #[a, b, c, d, e] 48)) [a', b', c', d', e'] 48
  rw [show (w.alloc (.cells #[a, b, c, d, e] 48)).heap.size = w.heap.size + 1 by simp] at this
  exact this
theorem new5r (w : World) (a b c d e a' b' c' d' e' x y z u v : Value) : Blk (((w.alloc (.cells #[a, b, c, d, e] 48)).alloc (.cells #[a', b', c', d', e'] 48)).alloc (.cells #[x, y, z, u, v] 75)) (w.heap.size + 1) [a', b', c', d', e'] 48 ∧ Blk (((w.alloc (.cells #[a, b, c, d, e] 48)).alloc (.cells #[a', b', c', d', e'] 48)).alloc (.cells #[x, y, z, u, v] 75)) (w.heap.size + 2) [x, y, z, u, v] 75 ∧ Below w.heap.size w (((w.alloc (.cells #[a, b, c, d, e] 48)).alloc (.cells #[a', b', c', d', e'] 48)).alloc (.cells #[x, y, z, u, v] 75)) := by
  obtain ⟨h1, h2, h3⟩ := new5 w a b c d e a' b' c' d' e'
  have h4 := (Below.refl _ ((w.alloc (.cells #[a, b, c, d, e] 48)).alloc (.cells #[a', b', c', d', e'] 48))).alloc (Nat.le_refl _) (.cells #[x, y, z, u, v] 75)
  refine ⟨h2.below h4 h2.lt, ?_, h3.trans (h4.mono (Nat.le_of_lt h1.lt))⟩
  have := Blk.new ((w.alloc (.cells #[a, b, c, d, e] 48)).alloc (.cells #[a', b', c', d', e'] 48)) [x, y, z, u, v] 75
  rw [show ((w.alloc (.cells #[a, b, c, d, e] 48)).alloc (.cells #[a', b', c', d', e'] 48)).heap.size = w.heap.size + 2 by simp] at this
  exact this

set_option maxRecDepth 100000 in
set_option maxHeartbeats 1600000 in
theorem impl_get_no (lo hi co : Int) (s : ByteArray) (i p : Int) (w : World) (hl : W32 lo) (hh : W32 hi) (hno : okGet lo hi i p = false) :
    Calls Try.prog 27 #[rV lo hi co s i, .int .i64 p] w fun e w' => e = .returned (.tuple #[rV lo hi co s i, .int .i64 (-1)]) ∧ Below w.heap.size w w' := by
  have HC := hid (fun q => impl_ch p q)
  have HI := hid (fun q => spec_in i 0 60008 q)
  unfold okGet at hno
  replace hno := of_decide_eq_false hno
  have BE := hid (new5 w (.int .u32 lo) (.int .u32 hi) (.int .u32 co) (.string s) (.int .i64 i) (.int .u32 lo) (.int .u32 hi) (.int .u32 co) (.string s) (.int .i64 i)).2.2
  by_cases h2 : 1 ≤ p ∧ p ≤ 4095
  · have HC' : Hid (∀ q, Calls Try.prog 47 #[.int .i64 p] q fun e w' => e = .returned (.bool true) ∧ q = w') := fun q => by have := HC.out q; rw [show isCh p = true from decide_eq_true h2] at this; exact this
    by_cases h3 : lo ≤ hi
    · have h5 : ¬ hi < lo := by omega
      · have h7 : ¬ (0 ≤ i ∧ i ≤ 60008) := fun h => hno ⟨h2, h3, h.1, h.2⟩
        by_cases h4 : i < 0
        · clear hno HC HI
          unfold rV
          go_enter Try.func27, Try.ntmps27
          go_wp2_with (first | (go_at_call 47; refine (HC'.out _).mono ?_; rintro e w1 ⟨rfl, rfl⟩))
          refine bodyPost_ret (v := .tuple #[.agg #[.int .u32 lo, .int .u32 hi, .int .u32 co, .string s, .int .i64 i], .int .i64 (-1)]) (by simp [results, Try.results27, go_sem]) rfl ?_
          exact ⟨rfl, BE.out⟩
        · have h6 : 60008 < i := by omega
          clear hno HC HI
          unfold rV
          go_enter Try.func27, Try.ntmps27
          go_wp2_with (first | (go_at_call 47; refine (HC'.out _).mono ?_; rintro e w1 ⟨rfl, rfl⟩))
          refine bodyPost_ret (v := .tuple #[.agg #[.int .u32 lo, .int .u32 hi, .int .u32 co, .string s, .int .i64 i], .int .i64 (-1)]) (by simp [results, Try.results27, go_sem]) rfl ?_
          exact ⟨rfl, BE.out⟩
    · have h5 : hi < lo := by omega
      clear hno HC HI
      unfold rV
      go_enter Try.func27, Try.ntmps27
      go_wp2_with (first | (go_at_call 47; refine (HC'.out _).mono ?_; rintro e w1 ⟨rfl, rfl⟩))
      refine bodyPost_ret (v := .tuple #[.agg #[.int .u32 lo, .int .u32 hi, .int .u32 co, .string s, .int .i64 i], .int .i64 (-1)]) (by simp [results, Try.results27, go_sem]) rfl ?_
      exact ⟨rfl, BE.out⟩
  · have HC' : Hid (∀ q, Calls Try.prog 47 #[.int .i64 p] q fun e w' => e = .returned (.bool false) ∧ q = w') := fun q => by have := HC.out q; rw [show isCh p = false from decide_eq_false h2] at this; exact this
    clear hno HC HI
    unfold rV
    go_enter Try.func27, Try.ntmps27
    go_wp2_with (first | (go_at_call 47; refine (HC'.out _).mono ?_; rintro e w1 ⟨rfl, rfl⟩))
    refine bodyPost_ret (v := .tuple #[.agg #[.int .u32 lo, .int .u32 hi, .int .u32 co, .string s, .int .i64 i], .int .i64 (-1)]) (by simp [results, Try.results27, go_sem]) rfl ?_
    exact ⟨rfl, BE.out⟩

set_option maxRecDepth 100000 in
set_option maxHeartbeats 1600000 in
theorem impl_get_yes (lo hi co : Int) (s : ByteArray) (i : Nat) (p : Int) (w : World) (hl : W32 lo) (hh : W32 hi) (hc : W32 co) (hok : okGet lo hi i p = true) :
    Calls Try.prog 27 #[rV lo hi co s i, .int .i64 p] w fun e w' => e = .returned (.tuple #[rV (rP lo hi co p).2.1 (rP lo hi co p).2.2 (rC co s i (rP lo hi co p).1.length) s (i + (rP lo hi co p).1.length), .int .i64 (rBit lo hi co p)]) ∧ Below w.heap.size w w' := by
  unfold okGet at hok
  obtain ⟨h2, h3, h4, h6⟩ := of_decide_eq_true hok
  have HC : Hid (∀ q, Calls Try.prog 47 #[.int .i64 p] q fun e w' => e = .returned (.bool true) ∧ q = w') := fun q => by have := impl_ch p q; rw [show isCh p = true from decide_eq_true h2] at this; exact this
  have h5 : ¬ hi < lo := by omega
  have h7 : decide ((60008 : Int) < (i : Int)) = false := decide_eq_false (by omega)
  obtain ⟨n2, n3, n4⟩ := new5r w (.int .u32 lo) (.int .u32 hi) (.int .u32 co) (.string s) (.int .i64 i) (.int .u32 0) (.int .u32 0) (.int .u32 0) (.string ⟨#[]⟩) (.int .i64 0) (.int .u32 lo) (.int .u32 hi) (.int .u32 co) (.string s) (.int .i64 i)
  have N2 := hid n2
  have N4 := hid n4
  have HG := hid (get_any (w.heap.size + 2) lo hi co p s i _ hl hh hc (by omega) n3)
  have HF := hid (fun q h => face_any (w.heap.size + 2) (rP lo hi co p).2.1 (rP lo hi co p).2.2 (rC co s i (rP lo hi co p).1.length) s (i + (rP lo hi co p).1.length : Nat) q h)
  rw [show ((i : Int) + ((rP lo hi co p).1.length : Int)) = ((i + (rP lo hi co p).1.length : Nat) : Int) by simp]
  generalize (rP lo hi co p).2.1 = PX at *
  generalize (rP lo hi co p).2.2 = PY at *
  generalize rC co s i (rP lo hi co p).1.length = PC at *
  generalize i + (rP lo hi co p).1.length = PI at *
  generalize rBit lo hi co p = BT at *
  clear hok h2 hl hh hc n2 n3 n4 h6
  unfold rV at *
  go_enter Try.func27, Try.ntmps27
  go_wp2_with (first | (go_at_call 47; refine (HC.out _).mono ?_; rintro e w1 ⟨rfl, rfl⟩))
  refine HG.out.mono ?_
  generalize ((w.alloc (.cells #[.int .u32 lo, .int .u32 hi, .int .u32 co, .string s, .int .i64 i] 48)).alloc (.cells #[.int .u32 0, .int .u32 0, .int .u32 0, .string ⟨#[]⟩, .int .i64 0] 48)).alloc (.cells #[.int .u32 lo, .int .u32 hi, .int .u32 co, .string s, .int .i64 i] 75) = w0 at *
  rintro e w1 ⟨rfl, hB1, hE1⟩
  have M2 := hid (N2.out.ef hE1 (by omega))
  have M4 := hid (N4.out.trans (hE1.below (by omega) N4.out.size))
  have MB := hid hB1
  clear hB1 hE1 HG N2 N4
  go_wp2_with fail
  refine (HF.out w1 MB.out).mono ?_
  rintro e w2 ⟨rfl, hb2⟩
  have M3 := hid (M2.out.below hb2 M2.out.lt)
  have M5 := hid (M4.out.trans (hb2.mono M4.out.size))
  have r0 := M3.out.cell (i := 0) rfl
  have r1 := M3.out.cell (i := 1) rfl
  have r2 := M3.out.cell (i := 2) rfl
  have r3 := M3.out.cell (i := 3) rfl
  have r4 := M3.out.cell (i := 4) rfl
  have y0 := M3.out.free 0
  have y1 := M3.out.free 1
  have y2 := M3.out.free 2
  have y3 := M3.out.free 3
  have y4 := M3.out.free 4
  clear hb2
  go_wp2_with fail
  refine bodyPost_ret (v := .tuple #[.agg #[.int .u32 PX, .int .u32 PY, .int .u32 PC, .string s, .int .i64 (PI : Nat)], .int .i64 BT]) (by simp [results, Try.results27, go_sem, r0, r1, r2, r3, r4]) rfl ?_
  exact ⟨rfl, ((((M5.out.setCell (p := ⟨w.heap.size + 1, 0, none⟩) (Nat.le_succ _) _).setCell (p := ⟨w.heap.size + 1, 1, none⟩) (Nat.le_succ _) _).setCell (p := ⟨w.heap.size + 1, 2, none⟩) (Nat.le_succ _) _).setCell (p := ⟨w.heap.size + 1, 3, none⟩) (Nat.le_succ _) _).setCell (p := ⟨w.heap.size + 1, 4, none⟩) (Nat.le_succ _) _⟩

theorem impl_get (lo hi co : Int) (s : ByteArray) (i p : Int) (w : World) (hl : W32 lo) (hh : W32 hi) (hc : W32 co) :
    Calls Try.prog 27 #[rV lo hi co s i, .int .i64 p] w fun e w' => e = .returned (rRes lo hi co s i p) ∧ Below w.heap.size w w' := by
  unfold rRes
  by_cases h : okGet lo hi i p = true
  · rw [if_pos h]
    have hi0 : 0 ≤ i := by
      unfold okGet at h
      exact (of_decide_eq_true h).2.2.1
    obtain ⟨k, rfl⟩ := Int.eq_ofNat_of_zero_le hi0
    exact impl_get_yes lo hi co s k p w hl hh hc h
  · rw [if_neg h]
    exact impl_get_no lo hi co s i p w hl hh (by simpa using h)
end Go.Proofs.Ytnehoginaofmpaa
