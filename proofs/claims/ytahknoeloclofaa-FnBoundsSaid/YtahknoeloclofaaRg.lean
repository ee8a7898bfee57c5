/- The contract of the program's ReaderGet. -/
import Derived.Test.YtahknoeloclofaaRd
import Derived.Test.YtahknoeloclofaaFw
namespace Go.Proofs.Ytahknoeloclofaa
open Go.RowKit
set_option linter.unusedVariables false

/-- May the reader go on? -/
def okGet (lo hi i p : Int) : Bool := decide ((1 ≤ p ∧ p ≤ 4095) ∧ lo ≤ hi ∧ 0 ≤ i ∧ i ≤ 60008)
/-- What ReaderGet answers. -/
def rRes (lo hi co : Int) (s : ByteArray) (i p : Int) : Value :=
  if okGet lo hi i p = true then .tuple #[rV (rP lo hi co p).2.1 (rP lo hi co p).2.2 (rC co s i (rP lo hi co p).1.length) s (i + (rP lo hi co p).1.length), .int .i64 (rBit lo hi co p)] else .tuple #[rV lo hi co s i, .int .i64 (-1)]

/-- Two new rows, the later one behind the elder. -/
theorem new2 (w : World) (l m : List Value) (t u : TypeId) : Blk ((w.alloc (.cells l.toArray t)).alloc (.cells m.toArray u)) w.heap.size l t ∧ Blk ((w.alloc (.cells l.toArray t)).alloc (.cells m.toArray u)) (w.heap.size + 1) m u ∧ Below w.heap.size w ((w.alloc (.cells l.toArray t)).alloc (.cells m.toArray u)) := by
  refine ⟨(Blk.new w l t).below ((Below.refl (w.alloc (.cells l.toArray t)).heap.size (w.alloc (.cells l.toArray t))).alloc (Nat.le_refl _) (.cells m.toArray u)) (by simp), ?_, ((Below.refl w.heap.size w).alloc (Nat.le_refl _) _).alloc (by simp) _⟩
  have := Blk.new (w.alloc (.cells l.toArray t)) m u
  rw [show (w.alloc (.cells l.toArray t)).heap.size = w.heap.size + 1 by simp] at this
  exact this

theorem new5 (w : World) (a b c d e a' b' c' d' e' : Value) : Blk ((w.alloc (.cells #[a, b, c, d, e] 48)).alloc (.cells #[a', b', c', d', e'] 48)) w.heap.size [a, b, c, d, e] 48 ∧ Blk ((w.alloc (.cells #[a, b, c, d, e] 48)).alloc (.cells #[a', b', c', d', e'] 48)) (w.heap.size + 1) [a', b', c', d', e'] 48 ∧ Below w.heap.size w ((w.alloc (.cells #[a, b, c, d, e] 48)).alloc (.cells #[a', b', c', d', e'] 48)) :=
  new2 w [a, b, c, d, e] [a', b', c', d', e'] 48 48

/-- What the program's get answers, and where the reader then is: the state of five. -/
def gR (lo hi co : Int) (s : ByteArray) (i p : Int) : Int × Int × Int × Int × Int :=
  if lo ≤ hi ∧ 0 ≤ i ∧ i ≤ 60008 then (rBit lo hi co p, (rP lo hi co p).2.1, (rP lo hi co p).2.2, rC co s i (rP lo hi co p).1.length, i + (rP lo hi co p).1.length) else (-1, lo, hi, co, i)
theorem get_any (r : List Value) (t : TypeId) (b : Nat) (lo hi co p : Int) (s : ByteArray) (i : Int) (w : World) (hl : W32 lo) (hh : W32 hi) (hc : W32 co) (hB : Blk w b (rCs lo hi co s i r) t) :
    Calls Try.prog 57 #[.pointer (some ⟨b, 0, none⟩), .int .i64 p] w fun e w' => e = .returned (.int .i64 (gR lo hi co s i p).1) ∧ Blk w' b (rCs (gR lo hi co s i p).2.1 (gR lo hi co s i p).2.2.1 (gR lo hi co s i p).2.2.2.1 s (gR lo hi co s i p).2.2.2.2 r) t ∧ Ef b w w' := by
  unfold gR
  by_cases h : lo ≤ hi ∧ 0 ≤ i ∧ i ≤ 60008
  · rw [if_pos h]
    obtain ⟨k, rfl⟩ := Int.eq_ofNat_of_zero_le h.2.1
    have := get_yes r t b lo hi co p s k w hl hh hc h.1 (by omega) hB
    rw [show ((k + (rP lo hi co p).1.length : Nat) : Int) = (k : Int) + ((rP lo hi co p).1.length : Int) by simp] at this
    exact this
  · rw [if_neg h]
    exact get_no r t b lo hi co p s i w hl hh h hB

set_option maxRecDepth 100000 in
set_option maxHeartbeats 1600000 in
theorem impl_get_no (lo hi co : Int) (s : ByteArray) (i p : Int) (w : World) (h2 : ¬ (1 ≤ p ∧ p ≤ 4095)) :
    Calls Try.prog 27 #[rV lo hi co s i, .int .i64 p] w fun e w' => e = .returned (.tuple #[rV lo hi co s i, .int .i64 (-1)]) ∧ Below w.heap.size w w' := by
  have HC' : Hid (∀ q, Calls Try.prog 48 #[.int .i64 p] q fun e w' => e = .returned (.bool false) ∧ q = w') := fun q => by have := impl_ch p q; rw [show isCh p = false from decide_eq_false h2] at this; exact this
  have BE := hid (new2 w [.int .u32 lo, .int .u32 hi, .int .u32 co, .string s, .int .i64 i] [.int .u32 lo, .int .u32 hi, .int .u32 co, .string s, .int .i64 i] 48 48).2.2
  clear h2
  unfold rV
  go_enter Try.func27, Try.ntmps27
  go_wp2_with (first | (go_at_call 48; refine (HC'.out _).mono ?_; rintro e w1 ⟨rfl, rfl⟩))
  refine bodyPost_ret (v := .tuple #[.agg #[.int .u32 lo, .int .u32 hi, .int .u32 co, .string s, .int .i64 i], .int .i64 (-1)]) (by simp [results, Try.results27, go_sem]) rfl ?_
  exact ⟨rfl, BE.out⟩

set_option maxRecDepth 100000 in
set_option maxHeartbeats 1600000 in
theorem impl_get_yes (lo hi co : Int) (s : ByteArray) (i p : Int) (w : World) (hl : W32 lo) (hh : W32 hi) (hc : W32 co) (h2 : 1 ≤ p ∧ p ≤ 4095) :
    Calls Try.prog 27 #[rV lo hi co s i, .int .i64 p] w fun e w' => e = .returned (.tuple #[rV (gR lo hi co s i p).2.1 (gR lo hi co s i p).2.2.1 (gR lo hi co s i p).2.2.2.1 s (gR lo hi co s i p).2.2.2.2, .int .i64 (gR lo hi co s i p).1]) ∧ Below w.heap.size w w' := by
  have HC : Hid (∀ q, Calls Try.prog 48 #[.int .i64 p] q fun e w' => e = .returned (.bool true) ∧ q = w') := fun q => by have := impl_ch p q; rw [show isCh p = true from decide_eq_true h2] at this; exact this
  have HR := hid (fun q => reader_from lo hi co s i q)
  have HG := hid (fun (b : Nat) (q : World) hq => get_any [] 76 b lo hi co p s i q hl hh hc hq)
  have HF := hid (fun (b : Nat) (q : World) h => face_any [] 76 b (gR lo hi co s i p).2.1 (gR lo hi co s i p).2.2.1 (gR lo hi co s i p).2.2.2.1 s (gR lo hi co s i p).2.2.2.2 q h)
  generalize gR lo hi co s i p = GG at *
  obtain ⟨BT, PX, PY, PC, PI⟩ := GG
  simp only at *
  clear h2 hl hh hc
  unfold rV at *
  go_enter Try.func27, Try.ntmps27
  go_wp2_with (first | (go_at_call 48; refine (HC.out _).mono ?_; rintro e w1 ⟨rfl, rfl⟩))
  refine (HR.out _).mono ?_
  obtain ⟨n1, n2, n3⟩ := new2 w [.int .u32 lo, .int .u32 hi, .int .u32 co, .string s, .int .i64 i] [.int .u32 0, .int .u32 0, .int .u32 0, .string ⟨#[]⟩, .int .i64 0] 48 48
  have N2 := hid n2
  have N3 := hid n3
  have hsz0 : ((w.alloc (.cells #[.int .u32 lo, .int .u32 hi, .int .u32 co, .string s, .int .i64 i] 48)).alloc (.cells #[.int .u32 0, .int .u32 0, .int .u32 0, .string ⟨#[]⟩, .int .i64 0] 48)).heap.size = w.heap.size + 2 := by simp
  clear n1 n2 n3
  generalize (w.alloc (.cells #[.int .u32 lo, .int .u32 hi, .int .u32 co, .string s, .int .i64 i] 48)).alloc (.cells #[.int .u32 0, .int .u32 0, .int .u32 0, .string ⟨#[]⟩, .int .i64 0] 48) = w0 at *
  rintro e w1 ⟨rfl, hb1⟩
  have hsz1 := hb1.size
  have M2 := hid (N2.out.below hb1 N2.out.lt)
  have M3 := hid (N3.out.trans (hb1.mono N3.out.size))
  have hA := hid ((Below.refl w1.heap.size w1).alloc (Nat.le_refl _) (.cells #[.int .u32 lo, .int .u32 hi, .int .u32 co, .string s, .int .i64 i] 76))
  have K2 := hid (M2.out.below hA.out M2.out.lt)
  have K3 := hid (M3.out.trans (hA.out.mono M3.out.size))
  have KB := hid (Blk.new w1 [.int .u32 lo, .int .u32 hi, .int .u32 co, .string s, .int .i64 i] 76)
  have hG := hid (show w.heap.size + 2 ≤ w1.heap.size by omega)
  clear hb1 M2 M3 hA N2 N3 hsz0 hsz1
  go_wp2_with fail
  generalize w1.alloc (.cells #[.int .u32 lo, .int .u32 hi, .int .u32 co, .string s, .int .i64 i] 76) = w2 at *
  generalize w1.heap.size = G at *
  refine (HG.out G w2 KB.out).mono ?_
  rintro e w3 ⟨rfl, hB3, hE3⟩
  have L2 := hid (K2.out.ef hE3 (by have := hG.out; omega))
  have L3 := hid (K3.out.trans (hE3.below (by have := hG.out; omega) K3.out.size))
  have HFA := hid (HF.out G w3 hB3)
  clear hB3 hE3 K2 K3 KB HG HF HR
  go_wp2_with fail
  refine HFA.out.mono ?_
  rintro e w4 ⟨rfl, hb4⟩
  have J2 := hid (L2.out.below hb4 L2.out.lt)
  have J3 := hid (L3.out.trans (hb4.mono L3.out.size))
  have r0 := J2.out.cell (i := 0) rfl
  have r1 := J2.out.cell (i := 1) rfl
  have r2 := J2.out.cell (i := 2) rfl
  have r3 := J2.out.cell (i := 3) rfl
  have r4 := J2.out.cell (i := 4) rfl
  have y0 := J2.out.free 0
  have y1 := J2.out.free 1
  have y2 := J2.out.free 2
  have y3 := J2.out.free 3
  have y4 := J2.out.free 4
  clear hb4
  go_wp2_with fail
  refine bodyPost_ret (v := .tuple #[.agg #[.int .u32 PX, .int .u32 PY, .int .u32 PC, .string s, .int .i64 PI], .int .i64 BT]) (by simp [results, Try.results27, go_sem, r0, r1, r2, r3, r4]) rfl ?_
  exact ⟨rfl, ((((J3.out.setCell (p := ⟨w.heap.size + 1, 0, none⟩) (Nat.le_succ _) _).setCell (p := ⟨w.heap.size + 1, 1, none⟩) (Nat.le_succ _) _).setCell (p := ⟨w.heap.size + 1, 2, none⟩) (Nat.le_succ _) _).setCell (p := ⟨w.heap.size + 1, 3, none⟩) (Nat.le_succ _) _).setCell (p := ⟨w.heap.size + 1, 4, none⟩) (Nat.le_succ _) _⟩

theorem impl_get (lo hi co : Int) (s : ByteArray) (i p : Int) (w : World) (hl : W32 lo) (hh : W32 hi) (hc : W32 co) :
    Calls Try.prog 27 #[rV lo hi co s i, .int .i64 p] w fun e w' => e = .returned (rRes lo hi co s i p) ∧ Below w.heap.size w w' := by
  by_cases h2 : 1 ≤ p ∧ p ≤ 4095
  · have := impl_get_yes lo hi co s i p w hl hh hc h2
    have e : rRes lo hi co s i p = .tuple #[rV (gR lo hi co s i p).2.1 (gR lo hi co s i p).2.2.1 (gR lo hi co s i p).2.2.2.1 s (gR lo hi co s i p).2.2.2.2, .int .i64 (gR lo hi co s i p).1] := by
      unfold rRes gR
      by_cases h : lo ≤ hi ∧ 0 ≤ i ∧ i ≤ 60008
      · rw [if_pos (show okGet lo hi i p = true from decide_eq_true ⟨h2, h.1, h.2.1, h.2.2⟩), if_pos h]
      · rw [if_neg (show ¬ okGet lo hi i p = true from fun k => h (of_decide_eq_true k).2), if_neg h]
    rw [e]
    exact this
  · have e : rRes lo hi co s i p = .tuple #[rV lo hi co s i, .int .i64 (-1)] := by
      unfold rRes
      rw [if_neg (show ¬ okGet lo hi i p = true from fun k => h2 (of_decide_eq_true k).1)]
    rw [e]
    exact impl_get_no lo hi co s i p w h2
end Go.Proofs.Ytahknoeloclofaa
