/- Contracts of booksOf, and of a pair of books' bits of a part. -/
import Derived.Test.YtcikmgdfelejpaaPts
import Derived.Test.YtcikmgdfelejpaaCodeImpl
import Derived.Deep.RegionHeld3
namespace Go.Proofs.Ytcikmgdfelejpaa
open Go.RowKit Go.Maps
set_option linter.unusedVariables false

/-- The tables at v: codes for Dc, and codes for Ac. -/
def TV (w : World) (v : Value) (cs ss ct st : List Int) : Prop :=
  ∃ a0 c0 a1 c1 a2 c2 a3 c3, v = .agg #[.slice a0 cs.length c0, .slice a1 ss.length c1, .slice a2 ct.length c2, .slice a3 st.length c3] ∧ CV w (.agg #[.slice a0 cs.length c0, .slice a1 ss.length c1]) cs ss ∧ CV w (.agg #[.slice a2 ct.length c2, .slice a3 st.length c3]) ct st
theorem TV.below {w w' : World} {v : Value} {cs ss ct st : List Int} (h : TV w v cs ss ct st) (hb : Below w.heap.size w w') : TV w' v cs ss ct st := by
  obtain ⟨a0, c0, a1, c1, a2, c2, a3, c3, rfl, h1, h2⟩ := h
  exact ⟨a0, c0, a1, c1, a2, c2, a3, c3, rfl, h1.below hb, h2.below hb⟩
/-- Block b holds four cells. -/
def Four (w : World) (b : Nat) (x y z u : Value) (t : TypeId) : Prop := w.heap[b]? = some (.cells #[x, y, z, u] t (0, 0))
theorem Four.cells {w : World} {b : Nat} {x y z u : Value} {t : TypeId} (h : Four w b x y z u t) :
    w.cell? ⟨b, 0, none⟩ = some x ∧ w.cell? ⟨b, 1, none⟩ = some y ∧ w.cell? ⟨b, 2, none⟩ = some z ∧ w.cell? ⟨b, 3, none⟩ = some u := by
  refine ⟨?_, ?_, ?_, ?_⟩
  · rw [cell_of_row w b 0 _ t (0, 0) h]; rfl
  · rw [cell_of_row w b 1 _ t (0, 0) h]; rfl
  · rw [cell_of_row w b 2 _ t (0, 0) h]; rfl
  · rw [cell_of_row w b 3 _ t (0, 0) h]; rfl
theorem Four.lt {w : World} {b : Nat} {x y z u : Value} {t : TypeId} (h : Four w b x y z u t) : b < w.heap.size := (Array.getElem?_eq_some_iff.1 h).1
theorem Four.new (w : World) (x y z u : Value) (t : TypeId) : Four (w.alloc (.cells #[x, y, z, u] t)) w.heap.size x y z u t := heap_alloc_new w _
theorem Four.below {w w' : World} {B b : Nat} {x y z u : Value} {t : TypeId} (h : Four w b x y z u t) (hb : Below B w w') (hB : b < B) : Four w' b x y z u t := (hb.block b hB).trans h

/-- The books in memory, each at its place. -/
def Books (w : World) (C1 C2 : Nat) (cs ss ct st : List Int) : Prop := (∃ M, BookAt w C1 M ss (keysTo cs 16)) ∧ ∃ M, BookAt w C2 M st (keysTo ct 16)
theorem BookAt.blt {w : World} {C M : Nat} {ss : List Int} {K : List (Nat × Int)} (h : BookAt w C M ss K) : C < w.heap.size ∧ M < w.heap.size := by
  obtain ⟨⟨arr, h1, h2⟩, h3⟩ := h
  exact ⟨h1.lt, h3.lt⟩
theorem Books.below {w w' : World} {C1 C2 : Nat} {cs ss ct st : List Int} (h : Books w C1 C2 cs ss ct st) (hb : Below w.heap.size w w') : Books w' C1 C2 cs ss ct st := by
  obtain ⟨⟨M, h1⟩, M', h2⟩ := h
  exact ⟨⟨M, h1.below hb⟩, M', h2.below hb⟩

theorem BookAt.set {w : World} {C M b i : Nat} {ss : List Int} {K : List (Nat × Int)} {x y : Value} {t : TypeId} (h : BookAt w C M ss K) (ht : Two w b x y t) (hne : t ≠ 143) (u : Value) : BookAt (w.setCell ⟨b, i, none⟩ u) C M ss K := by
  obtain ⟨⟨arr, h1, h2⟩, h3⟩ := h
  obtain ⟨es, clock, hh, r⟩ := h3
  have hCb : C ≠ b := fun e => by
    subst e
    unfold Two at ht
    unfold Arr at h1
    rw [h1] at ht
    cases ht
    exact hne rfl
  have hMb : M ≠ b := fun e => by
    subst e
    unfold Two at ht
    rw [hh] at ht
    cases ht
  exact ⟨⟨arr, h1.other hCb u, h2⟩, es, clock, (heap_setCell_other _ ⟨b, i, none⟩ M _ (fun e => hMb e)).trans hh, r⟩
theorem Books.set {w : World} {C1 C2 b i : Nat} {cs ss ct st : List Int} {x y : Value} {t : TypeId} (h : Books w C1 C2 cs ss ct st) (ht : Two w b x y t) (hne : t ≠ 143) (u : Value) : Books (w.setCell ⟨b, i, none⟩ u) C1 C2 cs ss ct st := by
  obtain ⟨⟨M, h1⟩, M', h2⟩ := h
  exact ⟨⟨M, h1.set ht hne u⟩, M', h2.set ht hne u⟩

set_option maxRecDepth 100000 in
set_option maxHeartbeats 1600000 in
theorem books_yes (v : Value) (cs ss ct st : List Int) (w : World) (h0 : cs.length ≤ 1048576) (h1 : ss.length ≤ 1048576) (h2 : ct.length ≤ 1048576) (h3 : st.length ≤ 1048576) (hr : rightC cs ss = true) (hr2 : rightC ct st = true) (hv : TV w v cs ss ct st) :
    Calls Try.prog 45 #[v] w fun e w' => ∃ C1 C2, e = .returned (.tuple #[.agg #[.pointer (some ⟨C1, 0, none⟩), .pointer (some ⟨C2, 0, none⟩)], .bool true]) ∧ Books w' C1 C2 cs ss ct st ∧ Below w.heap.size w w' := by
  obtain ⟨a0, c0, a1, c1, a2, c2, a3, c3, rfl, u0, u1⟩ := hv
  have hA := (Below.refl w.heap.size w).alloc (Nat.le_refl _) (.cells #[.slice a0 cs.length c0, .slice a1 ss.length c1, .slice a2 ct.length c2, .slice a3 st.length c3] 34)
  have hA2 := hA.alloc hA.size (.cells #[.pointer none, .pointer none] 78)
  have HB := hid hA2
  have HF := hid ((Four.new w (.slice a0 cs.length c0) (.slice a1 ss.length c1) (.slice a2 ct.length c2) (.slice a3 st.length c3) 34).below ((Below.refl _ _).alloc (Nat.le_refl _) (.cells #[.pointer none, .pointer none] 78)) (Four.new w _ _ _ _ 34).lt)
  have HT := hid (Two.new (w.alloc (.cells #[.slice a0 cs.length c0, .slice a1 ss.length c1, .slice a2 ct.length c2, .slice a3 st.length c3] 34)) (.pointer none) (.pointer none) 78)
  have hsz : (w.alloc (.cells #[.slice a0 cs.length c0, .slice a1 ss.length c1, .slice a2 ct.length c2, .slice a3 st.length c3] 34)).heap.size = w.heap.size + 1 := by simp
  rw [hsz] at HT
  have HK1 := hid (fun q (hq : Below w.heap.size w q) => impl_ok (.agg #[.slice a0 cs.length c0, .slice a1 ss.length c1]) cs ss q h0 h1 (u0.below hq))
  have HK2 := hid (fun q (hq : Below w.heap.size w q) => impl_ok (.agg #[.slice a2 ct.length c2, .slice a3 st.length c3]) ct st q h2 h3 (u1.below hq))
  rw [hr] at HK1
  rw [hr2] at HK2
  have HN1 := hid (fun q (hq : Below w.heap.size w q) => book_any (.agg #[.slice a0 cs.length c0, .slice a1 ss.length c1]) cs ss q hr (u0.below hq))
  have HN2 := hid (fun q (hq : Below w.heap.size w q) => book_any (.agg #[.slice a2 ct.length c2, .slice a3 st.length c3]) ct st q hr2 (u1.below hq))
  clear u0 u1 hA hA2 hr hr2 h0 h1 h2 h3 hsz
  go_enter Try.func45, Try.ntmps45
  go_wp2_with fail
  refine (HK1.out _ HB.out).mono ?_
  generalize (w.alloc (.cells #[.slice a0 cs.length c0, .slice a1 ss.length c1, .slice a2 ct.length c2, .slice a3 st.length c3] 34)).alloc (.cells #[.pointer none, .pointer none] 78) = wa at *
  rintro e w1 ⟨rfl, hb1⟩
  have B1 := hid (HB.out.trans (hb1.mono HB.out.size))
  have F1 := hid (HF.out.below hb1 HF.out.lt)
  have T1 := hid (HT.out.below hb1 HT.out.lt)
  obtain ⟨q0, q1, q2, q3⟩ := F1.out.cells
  clear hb1 HK1 HF HT
  go_wp2_with fail
  refine (HK2.out _ B1.out).mono ?_
  rintro e w2 ⟨rfl, hb2⟩
  have B2 := hid (B1.out.trans (hb2.mono B1.out.size))
  have F2 := hid (F1.out.below hb2 F1.out.lt)
  have T2 := hid (T1.out.below hb2 T1.out.lt)
  clear hb2 HK2 F1 T1 q0 q1 q2 q3 B1 HB
  have HFC := hid (fun q (hq : Below w2.heap.size w2 q) => (F2.out.below hq F2.out.lt).cells)
  have HTC := hid (fun q (hq : Below w2.heap.size w2 q) => (T2.out.below hq T2.out.lt).cells)
  obtain ⟨q0, q1, q2, q3⟩ := F2.out.cells
  obtain ⟨r0, r1, r2, r3⟩ := T2.out.cells
  go_wp2_with fail
  go_region_held3 (fun q => q.cell? ⟨w.heap.size, 0, none⟩ = some (.slice a0 cs.length c0) ∧ q.cell? ⟨w.heap.size, 1, none⟩ = some (.slice a1 ss.length c1) ∧ q.cell? ⟨w.heap.size, 2, none⟩ = some (.slice a2 ct.length c2) ∧ q.cell? ⟨w.heap.size, 3, none⟩ = some (.slice a3 st.length c3)) (go_keep) (first
    | (go_at_call 71; have hX := hcA; refine (HN2.out _ ?_).mono ?_; · first | exact B2.out.trans (hcA.mono B2.out.size) | exact B2.out.trans ((hcA.trans ((Below.refl _ _).drew.mono hcA.size)).mono B2.out.size)
       rintro e w4 ⟨C2, M2, rfl, hk2, hb4⟩
       have hcB : Below w2.heap.size w2 w4 := by first | exact hcA.trans (hb4.mono hcA.size) | exact hcA.trans ((Below.trans (Below.refl _ _).drew hb4).mono hcA.size)
       have hk1' : BookAt w4 C1 M1 ss (keysTo cs 16) := by first | exact hk1.below hb4 | exact (hk1.below (Below.refl _ _).drew).below hb4
       obtain ⟨f0, f1, f2, f3⟩ := HFC.out _ hcB
       obtain ⟨g0, g1, g2, g3⟩ := HTC.out _ hcB)
    | (go_at_call 71; refine (HN1.out _ ?_).mono ?_; · first | exact B2.out | exact B2.out.trans ((Below.refl _ _).drew.mono B2.out.size)
       rintro e w3 ⟨C1, M1, rfl, hk1, hb3⟩
       have hcA : Below w2.heap.size w2 w3 := by first | exact hb3 | exact Below.trans (Below.refl _ _).drew hb3
       obtain ⟨e0, e1, e2, e3⟩ := HFC.out _ hcA
       obtain ⟨d0, d1, d2, d3⟩ := HTC.out _ hcA))
  all_goals
    have HBF := hid (B2.out.trans (hcB.mono B2.out.size))
    have HK := hid (show Books w4 C1 C2 cs ss ct st from ⟨⟨M1, hk1'⟩, M2, hk2⟩)
    have HS1 := hid (T2.out.below hcB T2.out.lt)
    clear hcA hcB hk1 hk1' hk2 hb3 hb4
    go_wp2_with fail
    refine bodyPost_ret (v := .tuple #[.agg #[.pointer (some ⟨C1, 0, none⟩), .pointer (some ⟨C2, 0, none⟩)], .bool true]) (by simp [results, Try.results45, go_sem, g0, g1]) rfl ⟨C1, C2, rfl, ?_, ?_⟩
    · exact (HK.out.set (i := 0) HS1.out (by decide) _).set (i := 1) (HS1.out.set0 _) (by decide) _
    · exact (HBF.out.setCell (p := ⟨w.heap.size + 1, 0, none⟩) (by show w.heap.size ≤ w.heap.size + 1; omega) _).setCell (p := ⟨w.heap.size + 1, 1, none⟩) (by show w.heap.size ≤ w.heap.size + 1; omega) _

set_option maxRecDepth 100000 in
set_option maxHeartbeats 1600000 in
theorem books_no (v : Value) (cs ss ct st : List Int) (w : World) (h0 : cs.length ≤ 1048576) (h1 : ss.length ≤ 1048576) (h2 : ct.length ≤ 1048576) (h3 : st.length ≤ 1048576) (hr : ¬ (rightC cs ss = true ∧ rightC ct st = true)) (hv : TV w v cs ss ct st) :
    Calls Try.prog 45 #[v] w fun e w' => e = .returned (.tuple #[.agg #[.pointer none, .pointer none], .bool false]) ∧ Below w.heap.size w w' := by
  obtain ⟨a0, c0, a1, c1, a2, c2, a3, c3, rfl, u0, u1⟩ := hv
  have hA := (Below.refl w.heap.size w).alloc (Nat.le_refl _) (.cells #[.slice a0 cs.length c0, .slice a1 ss.length c1, .slice a2 ct.length c2, .slice a3 st.length c3] 34)
  have hA2 := hA.alloc hA.size (.cells #[.pointer none, .pointer none] 78)
  have HB := hid hA2
  have HF := hid ((Four.new w (.slice a0 cs.length c0) (.slice a1 ss.length c1) (.slice a2 ct.length c2) (.slice a3 st.length c3) 34).below ((Below.refl _ _).alloc (Nat.le_refl _) (.cells #[.pointer none, .pointer none] 78)) (Four.new w _ _ _ _ 34).lt)
  have HT := hid (Two.new (w.alloc (.cells #[.slice a0 cs.length c0, .slice a1 ss.length c1, .slice a2 ct.length c2, .slice a3 st.length c3] 34)) (.pointer none) (.pointer none) 78)
  have hsz : (w.alloc (.cells #[.slice a0 cs.length c0, .slice a1 ss.length c1, .slice a2 ct.length c2, .slice a3 st.length c3] 34)).heap.size = w.heap.size + 1 := by simp
  rw [hsz] at HT
  have HK1 := hid (fun q (hq : Below w.heap.size w q) => impl_ok (.agg #[.slice a0 cs.length c0, .slice a1 ss.length c1]) cs ss q h0 h1 (u0.below hq))
  have HK2 := hid (fun q (hq : Below w.heap.size w q) => impl_ok (.agg #[.slice a2 ct.length c2, .slice a3 st.length c3]) ct st q h2 h3 (u1.below hq))
  clear u0 u1 hA hA2 h0 h1 h2 h3 hsz
  by_cases hr1 : rightC cs ss = true
  · have hr2 : rightC ct st = false := by
      have : ¬ rightC ct st = true := fun h => hr ⟨hr1, h⟩
      simpa using this
    rw [hr1] at HK1
    rw [hr2] at HK2
    clear hr hr1 hr2
    go_enter Try.func45, Try.ntmps45
    go_wp2_with fail
    refine (HK1.out _ HB.out).mono ?_
    generalize (w.alloc (.cells #[.slice a0 cs.length c0, .slice a1 ss.length c1, .slice a2 ct.length c2, .slice a3 st.length c3] 34)).alloc (.cells #[.pointer none, .pointer none] 78) = wa at *
    rintro e w1 ⟨rfl, hb1⟩
    have B1 := hid (HB.out.trans (hb1.mono HB.out.size))
    have F1 := hid (HF.out.below hb1 HF.out.lt)
    have T1 := hid (HT.out.below hb1 HT.out.lt)
    obtain ⟨q0, q1, q2, q3⟩ := F1.out.cells
    clear hb1 HK1 HF HT
    go_wp2_with fail
    refine (HK2.out _ B1.out).mono ?_
    rintro e w2 ⟨rfl, hb2⟩
    have B2 := hid (B1.out.trans (hb2.mono B1.out.size))
    have T2 := hid (T1.out.below hb2 T1.out.lt)
    clear hb2 HK2 F1 T1 q0 q1 q2 q3 B1 HB
    obtain ⟨r0, r1, r2, r3⟩ := T2.out.cells
    go_wp2_with fail
    refine bodyPost_ret (v := .tuple #[.agg #[.pointer none, .pointer none], .bool false]) (by simp [results, Try.results45, go_sem, r0, r1]) rfl ⟨rfl, ?_⟩
    exact (B2.out.setCell (p := ⟨w.heap.size + 1, 0, none⟩) (by show w.heap.size ≤ w.heap.size + 1; omega) _).setCell (p := ⟨w.heap.size + 1, 1, none⟩) (by show w.heap.size ≤ w.heap.size + 1; omega) _
  · have hr1' : rightC cs ss = false := by simpa using hr1
    rw [hr1'] at HK1
    clear hr hr1 hr1' HK2
    go_enter Try.func45, Try.ntmps45
    go_wp2_with fail
    refine (HK1.out _ HB.out).mono ?_
    generalize (w.alloc (.cells #[.slice a0 cs.length c0, .slice a1 ss.length c1, .slice a2 ct.length c2, .slice a3 st.length c3] 34)).alloc (.cells #[.pointer none, .pointer none] 78) = wa at *
    rintro e w1 ⟨rfl, hb1⟩
    have B2 := hid (HB.out.trans (hb1.mono HB.out.size))
    have T2 := hid (HT.out.below hb1 HT.out.lt)
    clear hb1 HK1 HF HT
    obtain ⟨r0, r1, r2, r3⟩ := T2.out.cells
    go_wp2_with fail
    refine bodyPost_ret (v := .tuple #[.agg #[.pointer none, .pointer none], .bool false]) (by simp [results, Try.results45, go_sem, r0, r1]) rfl ⟨rfl, ?_⟩
    exact (B2.out.setCell (p := ⟨w.heap.size + 1, 0, none⟩) (by show w.heap.size ≤ w.heap.size + 1; omega) _).setCell (p := ⟨w.heap.size + 1, 1, none⟩) (by show w.heap.size ≤ w.heap.size + 1; omega) _

theorem ta_ss (v : Value) (w : World) : (Instr.typeAssert (.iface 110 v) 85 110 true).run Try.prog w = .ok (.tuple #[v, .bool true]) w := by kernel_rfl
theorem ta_bb (v : Value) (w : World) : (Instr.typeAssert (.iface 112 v) 85 112 true).run Try.prog w = .ok (.tuple #[v, .bool true]) w := by kernel_rfl
theorem ta_bs (v : Value) (w : World) : (Instr.typeAssert (.iface 112 v) 85 110 true).run Try.prog w = .ok (.tuple #[.agg #[.int .i64 0, .int .i64 0], .bool false]) w := by kernel_rfl

set_option maxRecDepth 100000 in
/-- The bits of a part of bits. -/
theorem bitsOf_b (C1 C2 : Nat) (ya : Option Addr) (yn yc : Nat) (w : World) :
    Calls Try.prog 47 #[.agg #[.pointer (some ⟨C1, 0, none⟩), .pointer (some ⟨C2, 0, none⟩)], .iface 112 (.agg #[.slice ya yn yc])] w fun e w' => e = .returned (.tuple #[.slice ya yn yc, .bool true]) ∧ Below w.heap.size w w' := by
  have HB := hid (((Below.refl w.heap.size w).alloc (Nat.le_refl _) (.cells #[.pointer (some ⟨C1, 0, none⟩), .pointer (some ⟨C2, 0, none⟩)] 78)).alloc (by simp) (.cells #[.slice ya yn yc] 112))
  have t1 := ta_bs
  have t2 := ta_bb
  go_enter Try.func47, Try.ntmps47
  go_wp2_with fail
  go_ret2
  exact ⟨rfl, HB.out⟩

/-- What a symbol's bits are: none where it has no code. -/
def SymP (code : List Int) (w : World) (e : Ending) (w' : World) : Prop :=
  (code.length = 0 ∧ e = .returned (.tuple #[.slice none 0 0, .bool false]) ∨ 0 < code.length ∧ ∃ v, e = .returned (.tuple #[v, .bool true]) ∧ Own w' w.heap.size 3 .i64 v code) ∧ Below w.heap.size w w'

set_option maxRecDepth 100000 in
set_option maxHeartbeats 1600000 in
theorem bitsOf_s (C1 C2 : Nat) (t : Nat) (x : Int) (cs ss ct st : List Int) (w : World) (ht : t = 0 ∨ t = 1) (hr : rightC cs ss = true) (hr2 : rightC ct st = true) (hk : Books w C1 C2 cs ss ct st) :
    Calls Try.prog 47 #[.agg #[.pointer (some ⟨C1, 0, none⟩), .pointer (some ⟨C2, 0, none⟩)], .iface 110 (.agg #[.int .i64 t, .int .i64 x])] w (SymP (if t = 0 then codeL cs ss x else codeL ct st x) w) := by
  obtain ⟨C, M, cc, sc, hC, hrc, hbk, hcode⟩ : ∃ C M cc sc, C = (if t = 0 then C1 else C2) ∧ rightC cc sc = true ∧ BookAt w C M sc (keysTo cc 16) ∧ (if t = 0 then codeL cs ss x else codeL ct st x) = codeL cc sc x := by
    obtain ⟨⟨M, h1⟩, M', h2⟩ := hk
    rcases ht with rfl | rfl
    · exact ⟨C1, M, cs, ss, rfl, hr, h1, rfl⟩
    · exact ⟨C2, M', ct, st, rfl, hr2, h2, rfl⟩
  rw [hcode]
  have HB0 := hid (((Below.refl w.heap.size w).alloc (Nat.le_refl _) (.cells #[.pointer (some ⟨C1, 0, none⟩), .pointer (some ⟨C2, 0, none⟩)] 78)).alloc (by simp) (.cells #[.int .i64 t, .int .i64 x] 110))
  have HH := hid (has_any C M sc (keysTo cc 16) x _ (hbk.below HB0.out))
  have HKEY := hid (book_key cc sc hrc)
  have HBK := hid (hbk.below HB0.out)
  have T1 := hid ((Two.new w (.pointer (some ⟨C1, 0, none⟩)) (.pointer (some ⟨C2, 0, none⟩)) 78).alloc (.cells #[.int .i64 t, .int .i64 x] 110))
  have T2 := hid (Two.new (w.alloc (.cells #[.pointer (some ⟨C1, 0, none⟩), .pointer (some ⟨C2, 0, none⟩)] 78)) (.int .i64 t) (.int .i64 x) 110)
  have t1 := ta_ss
  have hsz : (w.alloc (.cells #[.pointer (some ⟨C1, 0, none⟩), .pointer (some ⟨C2, 0, none⟩)] 78)).heap.size = w.heap.size + 1 := by simp
  rw [hsz] at T2
  clear hk hbk hr hr2 hrc hcode hsz
  by_cases hs : 0 ≤ x ∧ x ≤ 255
  · have hin := (inB_iff _).2 hs
    obtain ⟨j, rfl⟩ := Int.eq_ofNat_of_zero_le hs.1
    have hj : j < 256 := by omega
    have hcl : codeL cc sc (j : Int) = bitsK (bookTo sc (keysTo cc 16) j) := by unfold codeL; rw [if_pos hin]; rfl
    rcases HKEY.out j with hz | hkk
    · have hfl : (inB (j : Int) && decide (0 < ((bookTo sc (keysTo cc 16) (j : Int).toNat).1 : Int))) = false := by
        show (inB (j : Int) && decide (0 < ((bookTo sc (keysTo cc 16) j).1 : Int))) = false
        rw [hz]; simp
      rw [hfl] at HH
      have HR := hid (show (codeL cc sc (j : Int)).length = 0 by rw [hcl, hz]; rfl)
      clear hz hin hs hcl hfl HKEY
      rcases ht with rfl | rfl
      all_goals
        simp only [if_true, if_false, Nat.one_ne_zero] at hC
        subst hC
        go_enter Try.func47, Try.ntmps47
        go_wp2_with fail
        refine HH.out.mono ?_
        rintro e w3 ⟨rfl, rfl⟩
        go_wp2_with fail
        go_ret2
        exact ⟨.inl ⟨HR.out, rfl⟩, HB0.out⟩
    · have hfl : (inB (j : Int) && decide (0 < ((bookTo sc (keysTo cc 16) (j : Int).toNat).1 : Int))) = true := by
        show (inB (j : Int) && decide (0 < ((bookTo sc (keysTo cc 16) j).1 : Int))) = true
        have := hkk.1.1
        rw [hin, Bool.true_and]; simp; omega
      rw [hfl] at HH
      have HBI := hid (bitsOf_any C M sc (keysTo cc 16) j _ hj HBK.out hkk)
      have HP := hid (show 0 < (codeL cc sc (j : Int)).length by rw [hcl, bitsK, bl_length]; exact hkk.1.1)
      rw [← hcl] at HBI
      clear hkk hin hs hcl hfl HKEY
      generalize codeL cc sc (j : Int) = Y at *
      rcases ht with rfl | rfl
      all_goals
        simp only [if_true, if_false, Nat.one_ne_zero] at hC
        subst hC
        go_enter Try.func47, Try.ntmps47
        go_wp2_with fail
        refine HH.out.mono ?_
        rintro e w3 ⟨rfl, rfl⟩
        go_wp2_with fail
        refine HBI.out.mono ?_
        rintro e w4 ⟨y, rfl, hy, hb4⟩
        obtain ⟨yo, yc, rfl⟩ := hy.shape
        have HY := hid (hy.mono HB0.out.size)
        have HB4 := hid (HB0.out.trans (hb4.mono HB0.out.size))
        clear hy hb4
        go_wp2_with fail
        go_ret2
        exact ⟨.inr ⟨HP.out, _, rfl, HY.out⟩, HB4.out⟩
  · have hin := (inB_no _).2 hs
    have HR := hid (show (codeL cc sc x).length = 0 by rw [codeL_out cc sc x hin]; rfl)
    rw [hin, Bool.false_and] at HH
    clear hin hs HKEY
    rcases ht with rfl | rfl
    all_goals
      simp only [if_true, if_false, Nat.one_ne_zero] at hC
      subst hC
      go_enter Try.func47, Try.ntmps47
      go_wp2_with fail
      refine HH.out.mono ?_
      rintro e w3 ⟨rfl, rfl⟩
      go_wp2_with fail
      go_ret2
      exact ⟨.inl ⟨HR.out, rfl⟩, HB0.out⟩
end Go.Proofs.Ytcikmgdfelejpaa
