/- The contract of the program's CoderPut. -/
import Derived.Test.YtahknoeloclofaaFw
namespace Go.Proofs.Ytahknoeloclofaa
open Go.RowKit
set_option linter.unusedVariables false

/-- May a bit be put, the bounds aside? -/
def okP (b p : Int) (n : Nat) : Bool := decide ((0 ≤ b ∧ b ≤ 1) ∧ (1 ≤ p ∧ p ≤ 4095) ∧ n < 60000)
theorem pRes_no {lo hi : Int} {s : ByteArray} {b p : Int} (h : okP b p s.size = false) : cRes lo hi s b p = cV lo hi s := by
  unfold cRes
  rw [if_neg]
  intro h2
  unfold okPut at h2
  have := of_decide_eq_true h2
  exact absurd ⟨this.1, this.2.1, this.2.2.2⟩ (of_decide_eq_false h)
theorem pRes_yes {lo hi : Int} {s : ByteArray} {b p : Int} (h : okP b p s.size = true) : cRes lo hi s b p = cV (pPut lo hi b p).2.1 (pPut lo hi b p).2.2 (s ++ strOfNums (pPut lo hi b p).1) := by
  have h' := of_decide_eq_true h
  unfold cRes pPut
  by_cases hle : lo ≤ hi
  · rw [if_pos (show okPut lo hi b p s.size = true from decide_eq_true ⟨h'.1, h'.2.1, hle, h'.2.2⟩), if_pos hle]
  · rw [if_neg (show ¬ okPut lo hi b p s.size = true from fun k => hle (of_decide_eq_true k).2.2.1), if_neg hle]
    have : s ++ strOfNums [] = s := by
      obtain ⟨d⟩ := s
      apply ByteArray.ext
      simp [strOfNums]
    simp only
    rw [this]

set_option maxRecDepth 100000 in
set_option maxHeartbeats 1600000 in
theorem impl_put_no (lo hi : Int) (s : ByteArray) (bit p : Int) (w : World) (hs : s.size ≤ 1048576) (hno : okP bit p s.size = false) :
    Calls Try.prog 18 #[cV lo hi s, .int .i64 bit, .int .i64 p] w fun e w' => e = .returned (cV lo hi s) ∧ Below w.heap.size w w' := by
  have HB := hid (fun q => impl_bit bit q)
  have HC := hid (fun q => impl_ch p q)
  unfold okP at hno
  replace hno := of_decide_eq_false hno
  have BE := hid (((Below.refl w.heap.size w).alloc (Nat.le_refl _) (.cells #[.int .u32 lo, .int .u32 hi, .string s] 35)).alloc (by simp) (.cells #[.int .u32 lo, .int .u32 hi, .string s] 35))
  by_cases h1 : 0 ≤ bit ∧ bit ≤ 1
  · have HB' : Hid (∀ q, Calls Try.prog 49 #[.int .i64 bit] q fun e w' => e = .returned (.bool true) ∧ q = w') := fun q => by have := HB.out q; rw [decide_eq_true h1] at this; exact this
    by_cases h2 : 1 ≤ p ∧ p ≤ 4095
    · have HC' : Hid (∀ q, Calls Try.prog 48 #[.int .i64 p] q fun e w' => e = .returned (.bool true) ∧ q = w') := fun q => by have := HC.out q; rw [show isCh p = true from decide_eq_true h2] at this; exact this
      have h4 : (60000 : Int) ≤ (s.size : Int) := by
        have : ¬ s.size < 60000 := fun h => hno ⟨h1, h2, h⟩
        omega
      clear hno HB HC
      unfold cV
      go_enter Try.func18, Try.ntmps18
      go_wp2_with (first | (go_at_call 49; refine (HB'.out _).mono ?_; rintro e w1 ⟨rfl, rfl⟩) | (go_at_call 48; refine (HC'.out _).mono ?_; rintro e w1 ⟨rfl, rfl⟩))
      refine bodyPost_ret (v := .agg #[.int .u32 lo, .int .u32 hi, .string s]) (by simp [results, Try.results18, go_sem]) rfl ?_
      exact ⟨rfl, BE.out⟩
    · have HC' : Hid (∀ q, Calls Try.prog 48 #[.int .i64 p] q fun e w' => e = .returned (.bool false) ∧ q = w') := fun q => by have := HC.out q; rw [show isCh p = false from decide_eq_false h2] at this; exact this
      clear hno HB HC
      unfold cV
      go_enter Try.func18, Try.ntmps18
      go_wp2_with (first | (go_at_call 49; refine (HB'.out _).mono ?_; rintro e w1 ⟨rfl, rfl⟩) | (go_at_call 48; refine (HC'.out _).mono ?_; rintro e w1 ⟨rfl, rfl⟩))
      refine bodyPost_ret (v := .agg #[.int .u32 lo, .int .u32 hi, .string s]) (by simp [results, Try.results18, go_sem]) rfl ?_
      exact ⟨rfl, BE.out⟩
  · have HB' : Hid (∀ q, Calls Try.prog 49 #[.int .i64 bit] q fun e w' => e = .returned (.bool false) ∧ q = w') := fun q => by have := HB.out q; rw [decide_eq_false h1] at this; exact this
    clear hno HB HC
    unfold cV
    go_enter Try.func18, Try.ntmps18
    go_wp2_with (first | (go_at_call 49; refine (HB'.out _).mono ?_; rintro e w1 ⟨rfl, rfl⟩))
    refine bodyPost_ret (v := .agg #[.int .u32 lo, .int .u32 hi, .string s]) (by simp [results, Try.results18, go_sem]) rfl ?_
    exact ⟨rfl, BE.out⟩

set_option maxRecDepth 100000 in
set_option maxHeartbeats 1600000 in
theorem impl_put_yes (lo hi : Int) (s : ByteArray) (bit p : Int) (w : World) (hl : W32 lo) (hh : W32 hi) (hok : okP bit p s.size = true) :
    Calls Try.prog 18 #[cV lo hi s, .int .i64 bit, .int .i64 p] w fun e w' => e = .returned (cV (pPut lo hi bit p).2.1 (pPut lo hi bit p).2.2 (s ++ strOfNums (pPut lo hi bit p).1)) ∧ Below w.heap.size w w' := by
  unfold okP at hok
  obtain ⟨h1, h2, h4⟩ := of_decide_eq_true hok
  have HB : Hid (∀ q, Calls Try.prog 49 #[.int .i64 bit] q fun e w' => e = .returned (.bool true) ∧ q = w') := fun q => by have := impl_bit bit q; rw [decide_eq_true h1] at this; exact this
  have HC : Hid (∀ q, Calls Try.prog 48 #[.int .i64 p] q fun e w' => e = .returned (.bool true) ∧ q = w') := fun q => by have := impl_ch p q; rw [show isCh p = true from decide_eq_true h2] at this; exact this
  have h6 : decide ((60000 : Int) ≤ (s.size : Int)) = false := decide_eq_false (by omega)
  have HF := hid (fun q => writer_from lo hi s q)
  have HPA := hid (fun (b : Nat) (q : World) hq => put_any b [] 65 lo hi bit p (.slice none 0 0) [] q hl hh (by omega) (by simp) hq)
  have HPL := hid (pPut_len lo hi bit p)
  have hs1 := hid h4
  generalize pPut lo hi bit p = PP at *
  obtain ⟨PL, PX, PY⟩ := PP
  clear hok h1 h2 h4 hl hh
  unfold cV at *
  go_enter Try.func18, Try.ntmps18
  go_wp2_with (first | (go_at_call 49; refine (HB.out _).mono ?_; rintro e w1 ⟨rfl, rfl⟩) | (go_at_call 48; refine (HC.out _).mono ?_; rintro e w1 ⟨rfl, rfl⟩))
  refine (HF.out _).mono ?_
  obtain ⟨n1, n2, n3⟩ := two_new w (.int .u32 lo) (.int .u32 hi) (.string s) (.int .u32 0) (.int .u32 0) (.string ⟨#[]⟩)
  have N1 := hid n1
  have N2 := hid n2
  have N3 := hid n3
  have hsz0 : ((w.alloc (.cells #[.int .u32 lo, .int .u32 hi, .string s] 35)).alloc (.cells #[.int .u32 0, .int .u32 0, .string ⟨#[]⟩] 35)).heap.size = w.heap.size + 2 := by simp
  clear n1 n2 n3
  generalize (w.alloc (.cells #[.int .u32 lo, .int .u32 hi, .string s] 35)).alloc (.cells #[.int .u32 0, .int .u32 0, .string ⟨#[]⟩] 35) = w0 at *
  rintro e w1 ⟨rfl, hb1⟩
  have hsz1 := hb1.size
  have M1 := hid (N1.out.below hb1 N1.out.lt)
  have M2 := hid (N2.out.below hb1 N2.out.lt)
  have M3 := hid (N3.out.trans (hb1.mono N3.out.size))
  have hA := hid ((Below.refl w1.heap.size w1).alloc (Nat.le_refl _) (.cells #[.int .u32 lo, .int .u32 hi, .slice none 0 0] 65))
  have K1 := hid (M1.out.below hA.out M1.out.lt)
  have K2 := hid (M2.out.below hA.out M2.out.lt)
  have K3 := hid (M3.out.trans (hA.out.mono M3.out.size))
  have KB := hid (Blk.new w1 [.int .u32 lo, .int .u32 hi, .slice none 0 0] 65)
  have hG := hid (show w.heap.size + 2 ≤ w1.heap.size by omega)
  clear hb1 M1 M2 M3 hA N1 N2 N3 hsz0 hsz1
  go_wp2_with fail
  generalize w1.alloc (.cells #[.int .u32 lo, .int .u32 hi, .slice none 0 0] 65) = w2 at *
  generalize w1.heap.size = G at *
  refine (HPA.out G w2 ⟨KB.out, Own.nil _ _ _ _ (Nat.succ_le_of_lt KB.out.lt)⟩).mono ?_
  rintro e w3 ⟨rfl, ⟨v', hst⟩, hb3⟩
  simp only [List.nil_append] at hst
  have L1 := hid (K1.out.below hb3 (by have := hG.out; omega))
  have L2 := hid (K2.out.below hb3 (by have := hG.out; omega))
  have L3 := hid (K3.out.trans (hb3.mono (by have := hG.out; omega)))
  have HFA := hid (face_w [] 65 G PX PY v' PL s w3 (by have := hs1.out; omega) (by have : PL.length ≤ 4 := HPL.out; omega) hst)
  clear hst hb3 K1 K2 K3 KB HPA HF
  have q2 := L1.out.cell (i := 2) rfl
  go_wp2_with fail
  unfold cV at HFA
  refine HFA.out.mono ?_
  rintro e w4 ⟨rfl, hb4⟩
  have J2 := hid (L2.out.below hb4 L2.out.lt)
  have J3 := hid (L3.out.trans (hb4.mono L3.out.size))
  have r0 := J2.out.cell (i := 0) rfl
  have r1 := J2.out.cell (i := 1) rfl
  have r2 := J2.out.cell (i := 2) rfl
  have y0 := J2.out.free 0
  have y1 := J2.out.free 1
  have y2 := J2.out.free 2
  clear hb4 q2
  go_wp2_with fail
  refine bodyPost_ret (v := .agg #[.int .u32 PX, .int .u32 PY, .string (s ++ strOfNums PL)]) (by simp [results, Try.results18, go_sem, r0, r1, r2]) rfl ?_
  exact ⟨rfl, ((J3.out.setCell (p := ⟨w.heap.size + 1, 0, none⟩) (Nat.le_succ _) _).setCell (p := ⟨w.heap.size + 1, 1, none⟩) (Nat.le_succ _) _).setCell (p := ⟨w.heap.size + 1, 2, none⟩) (Nat.le_succ _) _⟩

theorem impl_put (lo hi : Int) (s : ByteArray) (bit p : Int) (w : World) (hl : W32 lo) (hh : W32 hi) (hs : s.size ≤ 1048576) :
    Calls Try.prog 18 #[cV lo hi s, .int .i64 bit, .int .i64 p] w fun e w' => e = .returned (cRes lo hi s bit p) ∧ Below w.heap.size w w' := by
  by_cases h : okP bit p s.size = true
  · rw [pRes_yes h]
    exact impl_put_yes lo hi s bit p w hl hh h
  · rw [pRes_no (by simpa using h)]
    exact impl_put_no lo hi s bit p w hs (by simpa using h)
end Go.Proofs.Ytahknoeloclofaa
