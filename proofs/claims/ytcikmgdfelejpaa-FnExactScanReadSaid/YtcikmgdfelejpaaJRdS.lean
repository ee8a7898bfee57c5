/- The program's reader of scans: its differences and its steps. -/
import Derived.Test.YtcikmgdfelejpaaJRdI
import Derived.Test.YtcikmgdfelejpaaJGd
namespace Go.Proofs.Ytcikmgdfelejpaa
open Go.RowKit Go.Maps
set_option linter.unusedVariables false

/-- The difference at a place, and the place behind it. -/
def shiftR (T : Tb) (xs : List Int) (i : Nat) : Option (Int × Nat) :=
  (T.sym 0 xs i).bind fun q => if (xs.length : Int) - q.2 < q.1 then none else if q.1 ≤ 11 then some (frv ((xs.drop q.2).take q.1.toNat), q.2 + q.1.toNat) else none
theorem shiftR_sym {T : Tb} {xs : List Int} {i : Nat} (h : T.sym 0 xs i = none) : shiftR T xs i = none := by
  unfold shiftR; rw [h]; rfl
theorem shiftR_few {T : Tb} {xs : List Int} {i n : Nat} {s : Int} (h : T.sym 0 xs i = some (s, n)) (hl : (xs.length : Int) - n < s) : shiftR T xs i = none := by
  unfold shiftR; rw [h]; exact if_pos hl
theorem shiftR_far {T : Tb} {xs : List Int} {i n : Nat} {s : Int} (h : T.sym 0 xs i = some (s, n)) (hl : ¬ (s ≤ 11)) : shiftR T xs i = none := by
  unfold shiftR; rw [h]
  show (if (xs.length : Int) - n < s then none else if s ≤ 11 then _ else none) = none
  rw [if_neg hl]
  split <;> rfl
theorem shiftR_some {T : Tb} {xs : List Int} {i n : Nat} {s : Nat} (h : T.sym 0 xs i = some ((s : Int), n)) (hl : (s : Int) ≤ (xs.length : Int) - n) (h11 : (s : Int) ≤ 11) : shiftR T xs i = some (frv ((xs.drop n).take s), n + s) := by
  unfold shiftR; rw [h]
  show (if (xs.length : Int) - n < s then none else if (s : Int) ≤ 11 then some (frv ((xs.drop n).take (s : Int).toNat), n + (s : Int).toNat) else none) = _
  rw [if_neg (by omega), if_pos h11]
  rfl
/-- What the reader's difference answers. -/
def ShP (w0 w : World) (b C1 C2 : Nat) (ao : Option Addr) (cap : Nat) (T : Tb) (xs : List Int) (i : Nat) (e : Ending) (w' : World) : Prop :=
  ((∃ x n, shiftR T xs i = some (x, n) ∧ e = .returned (.tuple #[.int .i64 x, .bool true]) ∧ RS w0 w' b C1 C2 ao cap T xs n) ∨ (shiftR T xs i = none ∧ e = .returned (.tuple #[.int .i64 0, .bool false]))) ∧ Ef b w w'
theorem AllBits.sub {xs : List Int} (h : AllBits xs) (i n : Nat) : AllBits ((xs.drop i).take n) := fun j hj => by
  simp only [List.length_take, List.length_drop] at hj
  simp only [List.getD, List.getElem?_take, List.getElem?_drop]
  rw [if_pos (by omega)]
  exact h (i + j) (by omega)

set_option maxRecDepth 100000 in
set_option maxHeartbeats 1600000 in
theorem rd_shift (w0 w : World) (b C1 C2 : Nat) (ao : Option Addr) (cap : Nat) (T : Tb) (xs : List Int) (i : Nat) (hT : T.right) (hx : AllBits xs) (h : RS w0 w b C1 C2 ao cap T xs i) :
    Calls Try.prog 82 #[.pointer (some ⟨b, 0, none⟩)] w (ShP w0 w b C1 C2 ao cap T xs i) := by
  have HS := hid (rd_sym w0 w b C1 C2 ao cap T xs i 0 (.inl rfl) hT h)
  have HX := hid hx
  clear hT h hx
  go_enter Try.func82, Try.ntmps82
  go_wp2_with fail
  refine HS.out.mono ?_
  rintro e w1 ⟨⟨s, n, hs, ⟨hin, s0, s1⟩, rfl, hr⟩ | ⟨hs, rfl, hr⟩, he⟩
  · have H1 := hid hs
    have HR := hid hr
    have HE := hid he
    obtain ⟨m, rfl⟩ : ∃ m : Nat, s = (m : Int) := ⟨s.toNat, by omega⟩
    have HC := hid (rd_rest w0 w1 b C1 C2 ao cap T xs n m (by omega) hr)
    clear hs hr he HS
    go_wp2_with fail
    refine HC.out.mono ?_
    rintro e w2 ⟨⟨a, c, hl, rfl, hv, hr⟩ | ⟨hl, rfl, hr⟩, he⟩
    · have HL := hid hl
      have HR2 := hid hr
      have HE2 := hid he
      have hlen : ((xs.drop n).take m).length = m := by simp; omega
      by_cases h11 : (m : Int) ≤ 11
      · have HF := hid (impl_from a c ((xs.drop n).take m) w2 (by omega) (by rw [hlen]; exact hv.below (Nat.le_refl _) hr.2.1) (HX.out.sub n m))
        rw [hlen] at HF
        have HK := hid (shiftR_some H1.out HL.out h11)
        clear hl hr he hv HC hlen
        go_wp2_with fail
        refine HF.out.mono ?_
        rintro e w3 ⟨rfl, hb⟩
        have HB := hid hb
        clear hb
        go_wp2_with fail
        go_ret2
        exact ⟨.inl ⟨_, _, HK.out, rfl, HR2.out.below HB.out⟩, (HE.out.trans HE2.out).trans (Ef.ofBelow HB.out)⟩
      · have HF := hid (impl_from_no a c m ((xs.drop n).take m) w2 (by omega) (by rw [hlen]; exact hv.below (Nat.le_refl _) hr.2.1) (fun hg => h11 hg.1.2))
        rw [hlen] at HF
        have HK := hid (shiftR_far H1.out h11)
        clear hl hr he hv HC hlen
        go_wp2_with fail
        refine HF.out.mono ?_
        rintro e w3 ⟨rfl, hb⟩
        have HB := hid hb
        clear hb
        go_wp2_with fail
        go_ret2
        exact ⟨.inr ⟨HK.out, rfl⟩, (HE.out.trans HE2.out).trans (Ef.ofBelow HB.out)⟩
    · have HK := hid (shiftR_few H1.out hl)
      have HE2 := hid he
      clear hl hr he HC
      go_wp2_with fail
      go_ret2
      exact ⟨.inr ⟨HK.out, rfl⟩, HE.out.trans HE2.out⟩
  · have HK := hid (shiftR_sym hs)
    have HE := hid he
    clear hs hr he HS
    go_wp2_with fail
    go_ret2
    exact ⟨.inr ⟨HK.out, rfl⟩, HE.out⟩

theorem rd1_sym {T : Tb} {xs : List Int} {i : Nat} (h : T.sym 1 xs i = none) : rd1 T xs i = none := by
  unfold rd1; rw [h]; rfl
theorem rd1_few {T : Tb} {xs : List Int} {i n : Nat} {s : Int} (h : T.sym 1 xs i = some (s, n)) (hl : (xs.length : Int) - n < s % 16) : rd1 T xs i = none := by
  unfold rd1; rw [h]; exact if_pos hl
theorem rd1_some {T : Tb} {xs : List Int} {i n m : Nat} {s : Int} (h : T.sym 1 xs i = some (s, n)) (hm : s % 16 = (m : Int)) (hl : (m : Int) ≤ (xs.length : Int) - n) : rd1 T xs i = some ((s / 16, (m : Int), (xs.drop n).take m), n + m) := by
  unfold rd1; rw [h]
  show (if (xs.length : Int) - n < s % 16 then none else some ((s / 16, s % 16, (xs.drop n).take (s % 16).toNat), n + (s % 16).toNat)) = _
  rw [hm, if_neg (by omega)]
  rfl
/-- What the reader's step answers. -/
def StP (w0 w : World) (b C1 C2 : Nat) (ao : Option Addr) (cap : Nat) (T : Tb) (xs : List Int) (i : Nat) (e : Ending) (w' : World) : Prop :=
  ((∃ r n bits a c p, rd1 T xs i = some ((r, n, bits), p) ∧ e = .returned (.tuple #[.agg #[.int .i64 r, .int .i64 n, .slice a bits.length c], .bool true]) ∧ bits.length ≤ 1048576 ∧ View .i64 w0 a bits.length bits ∧ RS w0 w' b C1 C2 ao cap T xs p) ∨ (rd1 T xs i = none ∧ ∃ r n : Int, e = .returned (.tuple #[.agg #[.int .i64 r, .int .i64 n, .slice none 0 0], .bool false]))) ∧ Ef b w w'

/-- Block b holds three cells. -/
def Thr (w : World) (b : Nat) (x y z : Value) (t : TypeId) : Prop := w.heap[b]? = some (.cells #[x, y, z] t (0, 0))
theorem Thr.cells {w : World} {b : Nat} {x y z : Value} {t : TypeId} (h : Thr w b x y z t) : w.cell? ⟨b, 0, none⟩ = some x ∧ w.cell? ⟨b, 1, none⟩ = some y ∧ w.cell? ⟨b, 2, none⟩ = some z := by
  refine ⟨?_, ?_, ?_⟩
  · rw [cell_of_row w b 0 _ t (0, 0) h]; rfl
  · rw [cell_of_row w b 1 _ t (0, 0) h]; rfl
  · rw [cell_of_row w b 2 _ t (0, 0) h]; rfl
theorem Thr.free {w : World} {b : Nat} {x y z : Value} {t : TypeId} (h : Thr w b x y z t) (i : Nat) : w.frozen? ⟨b, i, none⟩ = false := by
  simp only [World.frozen?]
  rw [show w.heap[b]? = _ from h]
  simp
theorem Thr.lt {w : World} {b : Nat} {x y z : Value} {t : TypeId} (h : Thr w b x y z t) : b < w.heap.size := (Array.getElem?_eq_some_iff.1 h).1
theorem Thr.new (w : World) (x y z : Value) (t : TypeId) : Thr (w.alloc (.cells #[x, y, z] t)) w.heap.size x y z t := heap_alloc_new w _
theorem Thr.below {w w' : World} {B b : Nat} {x y z : Value} {t : TypeId} (h : Thr w b x y z t) (hb : Below B w w') (hB : b < B) : Thr w' b x y z t := (hb.block b hB).trans h
theorem Thr.ef {w w' : World} {C b : Nat} {x y z : Value} {t : TypeId} (h : Thr w b x y z t) (hb : Ef C w w') (hB : b ≠ C) : Thr w' b x y z t := (hb.block b h.lt (fun e => hB (Option.some.inj e))).trans h
theorem Thr.set2 {w : World} {b : Nat} {x y z : Value} {t : TypeId} (h : Thr w b x y z t) (u : Value) : Thr (w.setCell ⟨b, 2, none⟩ u) b x y u t := heap_setCell_same w b 2 _ t u h
theorem Thr.set1 {w : World} {b : Nat} {x y z : Value} {t : TypeId} (h : Thr w b x y z t) (u : Value) : Thr (w.setCell ⟨b, 1, none⟩ u) b x u z t := heap_setCell_same w b 1 _ t u h
theorem Thr.set0 {w : World} {b : Nat} {x y z : Value} {t : TypeId} (h : Thr w b x y z t) (u : Value) : Thr (w.setCell ⟨b, 0, none⟩ u) b u y z t := heap_setCell_same w b 0 _ t u h
theorem Thr.other {w : World} {b c i : Nat} {x y z : Value} {t : TypeId} (h : Thr w b x y z t) (hne : b ≠ c) (u : Value) : Thr (w.setCell ⟨c, i, none⟩ u) b x y z t := (Below.heap_setCell _ _ _ _ (fun e => hne (by rw [e]))).trans h
theorem BookAt.setT {w : World} {C M b i : Nat} {ss : List Int} {K : List (Nat × Int)} {x y z : Value} {t : TypeId} (h : BookAt w C M ss K) (ht : Thr w b x y z t) (hne : t ≠ 143) (u : Value) : BookAt (w.setCell ⟨b, i, none⟩ u) C M ss K := by
  obtain ⟨⟨arr, h1, h2⟩, h3⟩ := h
  obtain ⟨es, clock, hh, r⟩ := h3
  have hCb : C ≠ b := fun e => by
    subst e
    unfold Thr at ht
    unfold Arr at h1
    rw [h1] at ht
    cases ht
    exact hne rfl
  have hMb : M ≠ b := fun e => by
    subst e
    unfold Thr at ht
    rw [hh] at ht
    cases ht
  exact ⟨⟨arr, h1.other hCb u, h2⟩, es, clock, (heap_setCell_other _ ⟨b, i, none⟩ M _ (fun e => hMb e)).trans hh, r⟩
theorem RS.setT {w0 w : World} {b C1 C2 : Nat} {ao : Option Addr} {cap : Nat} {T : Tb} {xs : List Int} {i g : Nat} {x y z : Value} {t : TypeId} (h : RS w0 w b C1 C2 ao cap T xs i) (ht : Thr w g x y z t) (hne : t ≠ 143) (hg : w0.heap.size ≤ g) (hgb : b ≠ g) (j : Nat) (u : Value) : RS w0 (w.setCell ⟨g, j, none⟩ u) b C1 C2 ao cap T xs i := by
  obtain ⟨h1, h2, h3, h4, ⟨M, h5⟩, M', h6⟩ := h
  exact ⟨h1, h2.setCell (p := ⟨g, j, none⟩) hg _, h3, (Below.heap_setCell _ _ _ _ (fun e => hgb (by rw [e]))).trans h4, ⟨M, h5.setT ht hne _⟩, M', h6.setT ht hne _⟩
theorem Ef.setNew {C : Nat} {w w1 : World} (h : Ef C w w1) {g : Nat} (hg : w.heap.size ≤ g) (j : Nat) (u : Value) : Ef C w (w1.setCell ⟨g, j, none⟩ u) :=
  ⟨h.os, h.tape, h.output, by have := h.size; simpa using this, fun k hk hne => (heap_setCell_other w1 ⟨g, j, none⟩ k u (fun e => by have e' : g = k := e.symm; omega)).trans (h.block k hk hne)⟩

set_option maxRecDepth 100000 in
set_option maxHeartbeats 1600000 in
theorem rd_step (w0 w : World) (b C1 C2 : Nat) (ao : Option Addr) (cap : Nat) (T : Tb) (xs : List Int) (i : Nat) (hT : T.right) (h : RS w0 w b C1 C2 ao cap T xs i) :
    Calls Try.prog 86 #[.pointer (some ⟨b, 0, none⟩)] w (StP w0 w b C1 C2 ao cap T xs i) := by
  have hA := (Below.refl w.heap.size w).alloc (Nat.le_refl _) (.cells #[.int .i64 0, .int .i64 0, .slice none 0 0] 73)
  have HA := hid hA
  have HT0 := hid (Thr.new w (.int .i64 0) (.int .i64 0) (.slice none 0 0) 73)
  have hb := h.2.2.2.1.lt
  have hw0 := h.2.1.size
  have HS := hid (rd_sym w0 _ b C1 C2 ao cap T xs i 1 (.inr rfl) hT (h.below hA))
  clear hT h hA
  go_enter Try.func86, Try.ntmps86
  go_wp2_with fail
  refine HS.out.mono ?_
  generalize w.alloc (.cells #[.int .i64 0, .int .i64 0, .slice none 0 0] 73) = wa at *
  rintro e w1 ⟨⟨s, n, hs, ⟨hin, s0, s1⟩, rfl, hr⟩ | ⟨hs, rfl, hr⟩, he⟩
  · have T1 := hid (HT0.out.ef he (by omega))
    have E1 := hid ((Ef.ofBelow (C := b) HA.out).trans he)
    have R1 := hid hr
    have H1 := hid hs
    obtain ⟨m, hm⟩ : ∃ m : Nat, s % 16 = (m : Int) := ⟨(s % 16).toNat, by omega⟩
    have hm16 : m < 16 := by omega
    have q1 : s.tdiv 16 = s / 16 := Int.tdiv_eq_ediv_of_nonneg s0
    have q2 : s.tmod 16 = (m : Int) := by rw [Int.tmod_eq_emod_of_nonneg s0]; exact hm
    have q3 : 0 ≤ s / 16 ∧ s / 16 ≤ 15 := by omega
    have HM := hid hm
    have hA1 := (Below.refl w1.heap.size w1).alloc (Nat.le_refl _) (.cells #[.int .i64 (s / 16), .int .i64 (m : Int), .slice none 0 0] 73)
    have hw1 : w.heap.size < w1.heap.size := T1.out.lt
    have T2 := hid (T1.out.below hA1 hw1)
    have T3 := hid (Thr.new w1 (.int .i64 (s / 16)) (.int .i64 (m : Int)) (.slice none 0 0) 73)
    have E2 := hid (E1.out.trans (Ef.ofBelow (C := b) hA1))
    have HC := hid (rd_rest w0 _ b C1 C2 ao cap T xs n m (by omega) (hr.below hA1))
    clear hs hr he HS HT0 HA hm hA1 T1 E1
    go_wp2_with fail
    refine HC.out.mono ?_
    generalize w1.alloc (.cells #[.int .i64 (s / 16), .int .i64 (m : Int), .slice none 0 0] 73) = wb at *
    rintro e w2 ⟨⟨a, c, hl, rfl, hv, hr⟩ | ⟨hl, rfl, hr⟩, he⟩
    · have HK := hid (rd1_some H1.out HM.out hl)
      have hlen : ((xs.drop n).take m).length = m := by simp; omega
      have HLN := hid hlen
      have R2 := hid hr
      have HV := hid hv
      have E3 := hid (E2.out.trans he)
      have U1 := T2.out.ef he (by omega)
      have U2 := T3.out.ef he (by omega)
      have V1 := U1.other (i := 2) (c := w1.heap.size) (by omega) (.slice a m c)
      have V2 := U2.set2 (.slice a m c)
      have W3 := hid (((V1.set0 (.int .i64 (s / 16))).set1 (.int .i64 (m : Int))).set2 (.slice a m c)).cells
      have E4 := hid ((((E3.out.setNew (g := w1.heap.size) (by omega) 2 (.slice a m c)).setNew (Nat.le_refl _) 0 (.int .i64 (s / 16))).setNew (Nat.le_refl _) 1 (.int .i64 (m : Int))).setNew (Nat.le_refl _) 2 (.slice a m c))
      have R4 := hid ((((R2.out.setT U2 (by decide) (by omega) (by omega) 2 (.slice a m c)).setT V1 (by decide) (by omega) (by omega) 0 (.int .i64 (s / 16))).setT (V1.set0 _) (by decide) (by omega) (by omega) 1 (.int .i64 (m : Int))).setT ((V1.set0 _).set1 _) (by decide) (by omega) (by omega) 2 (.slice a m c))
      obtain ⟨c0, c1, c2⟩ := V2.cells
      obtain ⟨d0, d1, d2⟩ := V1.cells
      obtain ⟨i0, i1, i2⟩ := U1.cells
      obtain ⟨j0, j1, j2⟩ := U2.cells
      have f2 := U2.free 2
      have g0 := V1.free 0
      have g1 := V1.free 1
      have g2 := V1.free 2
      clear hl hr he hv HC T2 T3 U1 U2 V1 V2 hlen
      go_wp2_with fail
      obtain ⟨k0, k1, k2⟩ := W3.out
      refine bodyPost_ret (v := .tuple #[.agg #[.int .i64 (s / 16), .int .i64 (m : Int), .slice a m c], .bool true]) (by simp [results, Try.results86, go_sem, k0, k1, k2]) rfl ?_
      refine ⟨.inl ⟨_, _, _, a, c, _, HK.out, by rw [HLN.out], by rw [HLN.out]; omega, ?_, R4.out⟩, E4.out⟩
      rw [HLN.out]
      exact HV.out
    · have HK := hid (rd1_few H1.out (by rw [HM.out]; exact hl))
      have E3 := hid (E2.out.trans he)
      have U1 := T2.out.ef he (by omega)
      have U2 := T3.out.ef he (by omega)
      have V1 := U1.other (i := 2) (c := w1.heap.size) (by omega) (.slice none 0 0)
      have V2 := U2.set2 (.slice none 0 0)
      have W3 := hid (((V1.set0 (.int .i64 (s / 16))).set1 (.int .i64 (m : Int))).set2 (.slice none 0 0)).cells
      have E4 := hid ((((E3.out.setNew (g := w1.heap.size) (by omega) 2 (.slice none 0 0)).setNew (Nat.le_refl _) 0 (.int .i64 (s / 16))).setNew (Nat.le_refl _) 1 (.int .i64 (m : Int))).setNew (Nat.le_refl _) 2 (.slice none 0 0))
      obtain ⟨c0, c1, c2⟩ := V2.cells
      obtain ⟨d0, d1, d2⟩ := V1.cells
      obtain ⟨i0, i1, i2⟩ := U1.cells
      obtain ⟨j0, j1, j2⟩ := U2.cells
      have f2 := U2.free 2
      have g0 := V1.free 0
      have g1 := V1.free 1
      have g2 := V1.free 2
      clear hl hr he HC T2 T3 U1 U2 V1 V2
      go_wp2_with fail
      obtain ⟨k0, k1, k2⟩ := W3.out
      refine bodyPost_ret (v := .tuple #[.agg #[.int .i64 (s / 16), .int .i64 (m : Int), .slice none 0 0], .bool false]) (by simp [results, Try.results86, go_sem, k0, k1, k2]) rfl ?_
      exact ⟨.inr ⟨HK.out, _, _, rfl⟩, E4.out⟩
  · have T1 := hid (HT0.out.ef he (by omega))
    have E1 := hid ((Ef.ofBelow (C := b) HA.out).trans he)
    have HK := hid (rd1_sym hs)
    obtain ⟨c0, c1, c2⟩ := T1.out.cells
    have f0 := T1.out.free 0
    have f1 := T1.out.free 1
    have f2 := T1.out.free 2
    have W3 := hid (((T1.out.set0 (.int .i64 0)).set1 (.int .i64 0)).set2 (.slice none 0 0)).cells
    have E2 := hid (((E1.out.setNew (Nat.le_refl _) 0 (.int .i64 0)).setNew (Nat.le_refl _) 1 (.int .i64 0)).setNew (Nat.le_refl _) 2 (.slice none 0 0))
    clear hs hr he HS HT0 HA
    go_wp2_with fail
    obtain ⟨d0, d1, d2⟩ := W3.out
    refine bodyPost_ret (v := .tuple #[.agg #[.int .i64 0, .int .i64 0, .slice none 0 0], .bool false]) (by simp [results, Try.results86, go_sem, d0, d1, d2]) rfl ?_
    exact ⟨.inr ⟨HK.out, _, _, rfl⟩, E2.out⟩
end Go.Proofs.Ytcikmgdfelejpaa
