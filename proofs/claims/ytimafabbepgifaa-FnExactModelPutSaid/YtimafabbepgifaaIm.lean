/- The contract of the program's ModelPut. -/
import Derived.Test.YtimafabbepgifaaCm
import Derived.Test.YtimafabbepgifaaPw
import Derived.Test.YtimafabbepgifaaFw
import Derived.Test.YtimafabbepgifaaSize
import Derived.Deep.CutRange
namespace Go.Proofs.Ytimafabbepgifaa
open Go.RowKit
set_option linter.unusedVariables false

theorem new_four (w : World) (l m r y : List Value) (t u x z : TypeId) : Blk ((((w.alloc (.cells l.toArray t)).alloc (.cells m.toArray u)).alloc (.cells r.toArray x)).alloc (.cells y.toArray z)) w.heap.size l t ∧ Blk ((((w.alloc (.cells l.toArray t)).alloc (.cells m.toArray u)).alloc (.cells r.toArray x)).alloc (.cells y.toArray z)) (w.heap.size + 1) m u ∧ Blk ((((w.alloc (.cells l.toArray t)).alloc (.cells m.toArray u)).alloc (.cells r.toArray x)).alloc (.cells y.toArray z)) (w.heap.size + 1 + 1) r x ∧ Blk ((((w.alloc (.cells l.toArray t)).alloc (.cells m.toArray u)).alloc (.cells r.toArray x)).alloc (.cells y.toArray z)) (w.heap.size + 1 + 1 + 1) y z ∧ Below w.heap.size w ((((w.alloc (.cells l.toArray t)).alloc (.cells m.toArray u)).alloc (.cells r.toArray x)).alloc (.cells y.toArray z)) := by
  obtain ⟨h1, h2, h3, h4⟩ := new_three w l m r t u x
  have e2 := (Below.refl (((w.alloc (.cells l.toArray t)).alloc (.cells m.toArray u)).alloc (.cells r.toArray x)).heap.size (((w.alloc (.cells l.toArray t)).alloc (.cells m.toArray u)).alloc (.cells r.toArray x))).alloc (Nat.le_refl _) (.cells y.toArray z)
  have b2 := Blk.new (((w.alloc (.cells l.toArray t)).alloc (.cells m.toArray u)).alloc (.cells r.toArray x)) y z
  rw [show (((w.alloc (.cells l.toArray t)).alloc (.cells m.toArray u)).alloc (.cells r.toArray x)).heap.size = w.heap.size + 1 + 1 + 1 by simp] at b2
  exact ⟨h1.below e2 h1.lt, h2.below e2 h2.lt, h3.below e2 h3.lt, b2, h4.trans (e2.mono h4.size)⟩
/-- Some rows, each by its block. -/
def Bs (q : World) (L : List (Nat × List Value × TypeId)) : Prop := ∀ x ∈ L, Blk q x.1 x.2.1 x.2.2
theorem Bs.below {q q' : World} {L : List (Nat × List Value × TypeId)} (h : Bs q L) (hb : Below q.heap.size q q') : Bs q' L := fun x hx => (h x hx).below hb (h x hx).lt
theorem Bs.kq {q q' : World} {L : List (Nat × List Value × TypeId)} {b g : Nat} (h : Bs q L) (hk : Kq b g q q') (hL : ∀ x ∈ L, x.2.2 ≠ 5 ∧ x.1 ≠ b ∧ x.1 ≠ g) : Bs q' L := fun x hx => hk _ _ _ (hL x hx).1 (hL x hx).2.1 (hL x hx).2.2 (h x hx)
theorem Bs.ef {q q' : World} {L : List (Nat × List Value × TypeId)} {b : Nat} (h : Bs q L) (hk : Ef b q q') (hL : ∀ x ∈ L, x.1 ≠ b) : Bs q' L := fun x hx => (h x hx).ef hk (hL x hx)
theorem Bs.get {q : World} {L : List (Nat × List Value × TypeId)} (h : Bs q L) {b : Nat} {l : List Value} {t : TypeId} (hm : (b, l, t) ∈ L) : Blk q b l t := h _ hm
theorem Own.other {w : World} {base g n c : Nat} {xs : List Int} (h : Own w base 3 .i64 (.slice (some ⟨g, 0, none⟩) n c) xs) {a : Addr} (ha : g ≠ a.block) (u : Value) : Own (w.setCell a u) base 3 .i64 (.slice (some ⟨g, 0, none⟩) n c) xs := by
  refine ⟨by have := h.1; simpa [World.setCell] using this, h.2.1, ?_⟩
  rcases h.2.2 with h0 | ⟨g', cap, cur, e, hg, hh, r⟩
  · exact .inl h0
  · refine .inr ⟨g', cap, cur, e, hg, ?_, r⟩
    simp only [Value.slice.injEq, Option.some.injEq, Addr.mk.injEq] at e
    obtain ⟨⟨rfl, _⟩, _⟩ := e
    exact (heap_setCell_other w a g u ha).trans hh
theorem mp_own {w : World} {base g n c A C : Nat} {xs : List Int} (h : Own w base 3 .i64 (.slice (some ⟨g, 0, none⟩) n c) xs) (ha : g ≠ A) (hc : g ≠ C) (u0 u1 u2 u3 : Value) : Own ((((w.setCell ⟨A, 0, none⟩ u0).setCell ⟨A, 1, none⟩ u1).setCell ⟨A, 2, none⟩ u2).setCell ⟨C, 0, none⟩ u3) base 3 .i64 (.slice (some ⟨g, 0, none⟩) n c) xs :=
  (((h.other (a := ⟨A, 0, none⟩) ha _).other (a := ⟨A, 1, none⟩) ha _).other (a := ⟨A, 2, none⟩) ha _).other (a := ⟨C, 0, none⟩) hc _
theorem has_room (n : Nat) (w : World) :
    Calls Try.prog 38 #[.int .i64 n] w fun e w' => e = .returned (.bool (decide (n ≤ 59800))) ∧ w = w' := by
  by_cases h : n ≤ 59800
  · rw [decide_eq_true h]
    have h' : (n : Int) ≤ 59800 := by omega
    go_enter Try.func38, Try.ntmps38
    go_wp2
    go_ret
    exact ⟨rfl, rfl⟩
  · rw [decide_eq_false h]
    have h' : ¬ (n : Int) ≤ 59800 := by omega
    go_enter Try.func38, Try.ntmps38
    go_wp2
    go_ret
    exact ⟨rfl, rfl⟩
/-- Is ModelPut true? -/
def okMP (s : ByteArray) (ch : List Int) (B x : Int) : Bool := decide (okM ch = true ∧ (0 ≤ B ∧ B ≤ (ch.length : Int) - 24) ∧ 0 ≤ sz x ∧ s.size ≤ 59800)
/-- What ModelPut answers: the coder and the chances. -/
def mpS (lo hi : Int) (s : ByteArray) (ch : List Int) (B x : Int) : PS := if okMP s ch B x = true then putTo B.toNat (planP x) ⟨lo, hi, [], ch⟩ (planP x).length else ⟨lo, hi, [], ch⟩

set_option maxRecDepth 100000 in
set_option maxHeartbeats 3200000 in
theorem impl_mput_yes (lo hi : Int) (s : ByteArray) (v : Value) (ch : List Int) (B : Nat) (x : Int) (w : World) (hl : W32 lo) (hh : W32 hi) (hx0 : -9223372036854775808 ≤ x) (hx1 : x ≤ 9223372036854775807) (hM : okM ch = true) (hBN : B + 24 ≤ ch.length) (hsz : 0 ≤ sz x) (hs : s.size ≤ 59800) (hv : Vp w v ch) :
    Calls Try.prog 10 #[cV lo hi s, .agg #[v], .int .i64 B, .int .i64 x] w fun e w' => ∃ v', e = .returned (.tuple #[cV (putTo B (planP x) ⟨lo, hi, [], ch⟩ (planP x).length).lo (putTo B (planP x) ⟨lo, hi, [], ch⟩ (planP x).length).hi (s ++ strOfNums (putTo B (planP x) ⟨lo, hi, [], ch⟩ (planP x).length).o), .agg #[v'], .bool true]) ∧ Own w' w.heap.size 3 .i64 v' (putTo B (planP x) ⟨lo, hi, [], ch⟩ (planP x).length).ch ∧ Below w.heap.size w w' := by
  have hMM := of_decide_eq_true hM
  have hn : ch.length ≤ 1200 := hMM.1
  have HCM := hid (fun q hq => copy_model v ch q (by omega) (hv.below (Nat.le_refl _) hq))
  have HMO : Hid (∀ q, Below w.heap.size w q → Calls Try.prog 11 #[.agg #[v]] q fun e w' => e = .returned (.bool true) ∧ Below q.heap.size q w') := fun q hq => by
    have := impl_modelOk v ch q (hv.below (Nat.le_refl _) hq).vw
    rw [hM] at this
    exact this
  have HHB : Hid (∀ q, Below w.heap.size w q → Calls Try.prog 36 #[.agg #[v], .int .i64 B] q fun e w' => e = .returned (.bool true) ∧ Below q.heap.size q w') := fun q hq => by
    have := has_base v ch B q (by omega) (hv.below (Nat.le_refl _) hq).vw
    rw [decide_eq_true (by omega)] at this
    exact this
  have HSI := hid (fun q => impl_size x q hx0 hx1)
  have hsz' : ¬ sz x < 0 := by omega
  have HRM := hid (fun q => has_room s.size q)
  rw [decide_eq_true hs] at HRM
  have HWF := hid (fun q => writer_from lo hi s q)
  obtain ⟨ao, cap, rfl, hv1, hv2, hv3⟩ := hv
  unfold cV at *
  generalize sz x = SZ at *
  clear hv1 hv2 hv3 hMM
  obtain ⟨n0, n1, n2, n3, n4⟩ := new_four w [.int .u32 lo, .int .u32 hi, .string s] [.slice ao ch.length cap] [.int .u32 0, .int .u32 0, .string ⟨#[]⟩] [.slice none 0 0] 32 27 32 27
  have N0 := hid n0
  have N1 := hid n1
  have N2 := hid n2
  have N3 := hid n3
  have N4 := hid n4
  clear n0 n1 n2 n3 n4
  generalize hCL : ch.length = CL at *
  have HCL := hid hCL
  clear hCL
  go_enter Try.func10, Try.ntmps10
  go_wp2_with fail
  refine (HCM.out _ N4.out).mono ?_
  generalize (((w.alloc (.cells #[.int .u32 lo, .int .u32 hi, .string s] 32)).alloc (.cells #[.slice ao CL cap] 27)).alloc (.cells #[.int .u32 0, .int .u32 0, .string ⟨#[]⟩] 32)).alloc (.cells #[.slice none 0 0] 27) = w0 at *
  rintro e w1 ⟨v1, rfl, ho1, hb1⟩
  obtain ⟨g, gc, rfl, hg0, hg1, hgc1, hgc2⟩ : ∃ g gc, v1 = .slice (some ⟨g, 0, none⟩) CL gc ∧ w0.heap.size ≤ g ∧ g < w1.heap.size ∧ CL ≤ gc ∧ gc ≤ maxLen := by
    rcases ho1.2.2 with ⟨e2, h0⟩ | ⟨g', cap', cur, e2, hg, hh, hle, hm, _⟩
    · have := HCL.out
      omega
    · rw [HCL.out] at e2 hle
      exact ⟨g', cap', e2, hg, (Array.getElem?_eq_some_iff.1 hh).1, hle, hm⟩
  have hw04 : w.heap.size + 1 + 1 + 1 < w0.heap.size := N3.out.lt
  have NA := hid ((Below.refl w1.heap.size w1).alloc (Nat.le_refl _) (.cells #[.slice (some ⟨g, 0, none⟩) CL gc] 27))
  have C1 := hid (hb1.trans (NA.out.mono hb1.size))
  have A1 := hid (N1.out.below C1.out N1.out.lt)
  have A4 := hid (N4.out.trans (C1.out.mono N4.out.size))
  have BS : Hid (Bs (w1.alloc (.cells #[.slice (some ⟨g, 0, none⟩) CL gc] 27)) [(w.heap.size, [.int .u32 lo, .int .u32 hi, .string s], 32), (w.heap.size + 1, [.slice ao CL cap], 27), (w.heap.size + 1 + 1, [.int .u32 0, .int .u32 0, .string ⟨#[]⟩], 32), (w.heap.size + 1 + 1 + 1, [.slice none 0 0], 27), (w1.heap.size, [.slice (some ⟨g, 0, none⟩) CL gc], 27)]) := by
    intro x hx
    simp only [List.mem_cons, List.not_mem_nil, or_false] at hx
    rcases hx with rfl | rfl | rfl | rfl | rfl
    · exact N0.out.below C1.out N0.out.lt
    · exact N1.out.below C1.out N1.out.lt
    · exact N2.out.below C1.out N2.out.lt
    · exact N3.out.below C1.out N3.out.lt
    · exact Blk.new w1 [.slice (some ⟨g, 0, none⟩) CL gc] 27
  have GA := hid (ho1.nums.kept (fun l hl => hl.below NA.out hl.lt))
  have OA := hid (ho1.alloc (.cells #[.slice (some ⟨g, 0, none⟩) CL gc] 27))
  have m1 := (N1.out.below hb1 N1.out.lt).cell (i := 0) rfl
  have hltm : w.heap.size + 1 < w1.heap.size := by have := hb1.size; omega
  have hnem : ¬ w.heap.size + 1 = w1.heap.size := Nat.ne_of_lt hltm
  have m1' := A1.out.cell (i := 0) rfl
  have hAB := hid hg1
  have HGC := hid (And.intro hgc1 hgc2)
  have HG0 := hid (show w.heap.size + 1 + 1 + 1 < g by omega)
  clear ho1 hb1 N0 N1 N2 N3 N4 NA C1
  go_wp2_with fail
  refine (HMO.out _ A4.out).mono ?_
  generalize w1.alloc (.cells #[.slice (some ⟨g, 0, none⟩) CL gc] 27) = w2 at *
  generalize w1.heap.size = AB at *
  clear m1 hltm hnem m1' A1 hg1 hg0 hgc1 hgc2 hw04
  rintro e w3 ⟨rfl, hb3⟩
  have BS3 := hid (BS.out.below hb3)
  have A43 := hid (A4.out.trans (hb3.mono A4.out.size))
  have GA3 := hid (GA.out.kept (fun l hl => hl.below hb3 hl.lt))
  have m3 := (BS3.out.get (b := w.heap.size + 1) (l := [.slice ao CL cap]) (t := 27) (by simp)).cell (i := 0) rfl
  clear hb3 BS A4 GA OA
  go_wp2_with fail
  refine (HHB.out _ A43.out).mono ?_
  rintro e w4 ⟨rfl, hb4⟩
  have BS4 := hid (BS3.out.below hb4)
  have A44 := hid (A43.out.trans (hb4.mono A43.out.size))
  have GA4 := hid (GA3.out.kept (fun l hl => hl.below hb4 hl.lt))
  have c4 := (BS4.out.get (b := w.heap.size) (l := [.int .u32 lo, .int .u32 hi, .string s]) (t := 32) (by simp)).cell (i := 2) rfl
  clear hb4 BS3 A43 GA3 m3
  go_wp2_with fail
  refine (HSI.out _).mono ?_
  rintro e w5 ⟨rfl, rfl⟩
  go_wp2_with fail
  refine (HRM.out _).mono ?_
  rintro e w5 ⟨rfl, rfl⟩
  have c0 := (BS4.out.get (b := w.heap.size) (l := [.int .u32 lo, .int .u32 hi, .string s]) (t := 32) (by simp)).cell (i := 0) rfl
  have c1 := (BS4.out.get (b := w.heap.size) (l := [.int .u32 lo, .int .u32 hi, .string s]) (t := 32) (by simp)).cell (i := 1) rfl
  have a4 := (BS4.out.get (b := AB) (l := [.slice (some ⟨g, 0, none⟩) CL gc]) (t := 27) (by simp)).cell (i := 0) rfl
  have hcl : w.heap.size < w4.heap.size := (BS4.out.get (b := w.heap.size) (l := [.int .u32 lo, .int .u32 hi, .string s]) (t := 32) (by simp)).lt
  have hal : AB < w4.heap.size := (BS4.out.get (b := AB) (l := [.slice (some ⟨g, 0, none⟩) CL gc]) (t := 27) (by simp)).lt
  go_wp2_with fail
  refine (HWF.out w4).mono ?_
  rintro e w6 ⟨rfl, hb6⟩
  have NW := hid ((Below.refl w6.heap.size w6).alloc (Nat.le_refl _) (.cells #[.int .u32 lo, .int .u32 hi, .slice none 0 0] 73))
  have hN0 := hid (Blk.new w6 [.int .u32 lo, .int .u32 hi, .slice none 0 0] 73)
  have hbx0 := hid (hb6.trans (NW.out.mono hb6.size))
  have a6 := ((BS4.out.below hb6).get (b := AB) (l := [.slice (some ⟨g, 0, none⟩) CL gc]) (t := 27) (by simp)).cell (i := 0) rfl
  have hal6 : AB < w6.heap.size := Nat.lt_of_lt_of_le hal hb6.size
  have han6 : ¬ AB = w6.heap.size := Nat.ne_of_lt hal6
  have han6' : ¬ w6.heap.size = AB := fun e => han6 e.symm
  have hNge := hb6.size
  have hBI0 : (0 : Int) ≤ (B : Int) := by omega
  have hBI1 : (B : Int) ≤ (CL : Int) := by omega
  have hcg : (CL : Int) ≤ (gc : Int) := by have := HGC.out.1; omega
  clear hb6 NW
  go_wp2_with fail
  generalize w6.alloc (.cells #[.int .u32 lo, .int .u32 hi, .slice none 0 0] 73) = wc at *
  generalize w6.heap.size = N at *
  have hN := hN0.out
  have hbx := hbx0.out
  clear hN0 hbx0 a6 hBI0 hBI1 hcg
  have BSx := hid (BS4.out.below hbx)
  have Ax := hid (A44.out.trans (hbx.mono A44.out.size))
  have Gx := hid (GA4.out.kept (fun l hl => hl.below hbx hl.lt))
  have hgN : g < N := by have := GA4.out.lt; omega
  have hABN : AB < N := by omega
  have hcN : w.heap.size + 1 + 1 + 1 < N := by have := HG0.out; omega
  have HPN := hid (put_num N g gc CL B 0 (CL - B) (gc - B) x ⟨lo, hi, [], ch⟩ (.slice none 0 0) wc hx0 hx1 hn hBN (by omega) (by omega) hgN ⟨hl, hh, HCL.out, (of_decide_eq_true hM).2, by simp⟩ ⟨hN, Own.nil _ _ _ _ (Nat.succ_le_of_lt hN.lt)⟩ Gx.out)
  have HZK := hid (putTo_ok (x := x) (B := B) (N := CL) (L := 0) (st := ⟨lo, hi, [], ch⟩) ⟨hl, hh, HCL.out, (of_decide_eq_true hM).2, by simp⟩ hBN (planP x).length (Nat.le_refl _))
  have hp23 := planP_len23 x
  have HP23 := hid hp23
  generalize hZE : putTo B (planP x) ⟨lo, hi, [], ch⟩ (planP x).length = Z at *
  have HZE := hid hZE
  clear hZE hcl hal hal6 han6 han6' c0 c1 c4 a4 BS4 A44 GA4 HCM HMO HHB HSI HWF HRM hbx hN hl hh hM hp23
  refine HPN.out.mono ?_
  rintro e w7 ⟨rfl, ⟨v7, hW7⟩, hC7, hB7, hK7⟩
  have BS7 := hid (BSx.out.kq hK7 (by
    intro y hy
    simp only [List.mem_cons, List.not_mem_nil, or_false] at hy
    have h1 := HG0.out
    have h2 := hAB.out
    rcases hy with rfl | rfl | rfl | rfl | rfl <;> refine ⟨?_, ?_, ?_⟩ <;> simp <;> omega))
  have A7 := hid (Ax.out.trans (hB7.mono (by have := HG0.out; omega)))
  have C7 := hid hC7
  have HFA := hid (face_w [] 73 N Z.lo Z.hi v7 Z.o s w7.drew (by omega) (by have := HZK.out.ol; have := HP23.out; omega) (hW7.drewN 1))
  have c7 := (BS7.out.get (b := w.heap.size) (l := [.int .u32 lo, .int .u32 hi, .string s]) (t := 32) (by simp)).cell (i := 2) rfl
  clear hW7 hC7 hB7 hK7 HPN BSx Ax Gx
  unfold cV at HFA
  have a7 := (BS7.out.get (b := AB) (l := [.slice (some ⟨g, 0, none⟩) CL gc]) (t := 27) (by simp)).cell (i := 0) rfl
  have hx2 : ¬ AB = w.heap.size + 1 + 1 := by have := hAB.out; have := HG0.out; omega
  have hx3 : ¬ AB = w.heap.size + 1 + 1 + 1 := by have := hAB.out; have := HG0.out; omega
  have hx2' : ¬ w.heap.size + 1 + 1 = AB := fun e => hx2 e.symm
  have hx3' : ¬ w.heap.size + 1 + 1 + 1 = AB := fun e => hx3 e.symm
  have D7 := hid (below_drewN w7 1)
  go_wp2_with fail
  go_region_with (go_at_call 41; refine HFA.out.mono ?_; rintro e w8 ⟨rfl, hb8⟩; have E8 := hid (D7.out.trans hb8); have BS8 := hid (BS7.out.below E8.out); have r0 := (BS8.out.get (b := w.heap.size + 1 + 1) (l := [.int .u32 0, .int .u32 0, .string ⟨#[]⟩]) (t := 32) (by simp)).cell (i := 0) rfl; have r1 := (BS8.out.get (b := w.heap.size + 1 + 1) (l := [.int .u32 0, .int .u32 0, .string ⟨#[]⟩]) (t := 32) (by simp)).cell (i := 1) rfl; have r2 := (BS8.out.get (b := w.heap.size + 1 + 1) (l := [.int .u32 0, .int .u32 0, .string ⟨#[]⟩]) (t := 32) (by simp)).cell (i := 2) rfl; have y0 := (BS8.out.get (b := w.heap.size + 1 + 1) (l := [.int .u32 0, .int .u32 0, .string ⟨#[]⟩]) (t := 32) (by simp)).free 0; have y1 := (BS8.out.get (b := w.heap.size + 1 + 1) (l := [.int .u32 0, .int .u32 0, .string ⟨#[]⟩]) (t := 32) (by simp)).free 1; have y2 := (BS8.out.get (b := w.heap.size + 1 + 1) (l := [.int .u32 0, .int .u32 0, .string ⟨#[]⟩]) (t := 32) (by simp)).free 2; have m0 := (BS8.out.get (b := w.heap.size + 1 + 1 + 1) (l := [.slice none 0 0]) (t := 27) (by simp)).cell (i := 0) rfl; have z0 := (BS8.out.get (b := w.heap.size + 1 + 1 + 1) (l := [.slice none 0 0]) (t := 27) (by simp)).free 0; have a8 := (BS8.out.get (b := AB) (l := [.slice (some ⟨g, 0, none⟩) CL gc]) (t := 27) (by simp)).cell (i := 0) rfl)
  all_goals
    have C8 := hid (C7.out.kept (fun l hl => hl.below E8.out hl.lt))
    have A8 := hid (A7.out.trans (E8.out.mono A7.out.size))
    clear hb8 E8 HFA D7 c7 a7
    go_wp2_with fail
    refine bodyPost_ret (v := .tuple #[.agg #[.int .u32 Z.lo, .int .u32 Z.hi, .string (s ++ strOfNums Z.o)], .agg #[.slice (some ⟨g, 0, none⟩) CL gc], .bool true]) (by simp [results, Try.results10, go_sem, r0, r1, r2, m0]) rfl ?_
    rw [HZE.out]
    refine ⟨_, rfl, ?_, ?_⟩
    · have h1 := C8.out.own (base := w.heap.size) (by have := HG0.out; omega) (by rw [HZK.out.ln]; exact HGC.out.1) HGC.out.2
      rw [HZK.out.ln] at h1
      exact mp_own h1 (by have := HG0.out; omega) (by have := HG0.out; omega) _ _ _ _
    · exact (((A8.out.setCell (p := ⟨w.heap.size + 1 + 1, 0, none⟩) (by show w.heap.size ≤ w.heap.size + 1 + 1; omega) _).setCell (p := ⟨w.heap.size + 1 + 1, 1, none⟩) (by show w.heap.size ≤ w.heap.size + 1 + 1; omega) _).setCell (p := ⟨w.heap.size + 1 + 1, 2, none⟩) (by show w.heap.size ≤ w.heap.size + 1 + 1; omega) _).setCell (p := ⟨w.heap.size + 1 + 1 + 1, 0, none⟩) (by show w.heap.size ≤ w.heap.size + 1 + 1 + 1; omega) _
end Go.Proofs.Ytimafabbepgifaa
