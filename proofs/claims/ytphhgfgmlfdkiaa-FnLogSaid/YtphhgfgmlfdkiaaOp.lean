/- LogOpen of the program. -/
import Derived.Test.YtphhgfgmlfdkiaaOpr
import Derived.Test.YtphhgfgmlfdkiaaLr
import Derived.Test.YtphhgfgmlfdkiaaBh
namespace Go.Proofs.Ytphhgfgmlfdkiaa
open Go.RowKit
set_option linter.unusedVariables false

/-- What LogOpen leaves: a disk, texts, a sector. -/
def OpR (S : List ByteArray) (L : List (Int × ByteArray)) (S' : List ByteArray) (L' : List (Int × ByteArray)) (o : List ByteArray) (p : Nat) : Prop :=
  (okB S L = false ∧ S' = S ∧ L' = L ∧ o = [] ∧ p = 0) ∨
  (okB S L = true ∧ ∃ o0 p0, Log (eff S L) o0 p0 ∧
    (((emTo (eff S L) p0 S.length).length + L.length ≤ 3000 ∧ S' = crTo S (L ++ emTo (eff S L) p0 S.length) kpAll (L ++ emTo (eff S L) p0 S.length).length ∧ L' = [] ∧ o = o0 ∧ p = p0) ∨
     (¬ (emTo (eff S L) p0 S.length).length + L.length ≤ 3000 ∧ S' = S ∧ L' = L ∧ o = [] ∧ p = 0)))
theorem OpR.same {S : List ByteArray} {L : List (Int × ByteArray)} {S1 S2 : List ByteArray} {L1 L2 : List (Int × ByteArray)} {o1 o2 : List ByteArray} {p1 p2 : Nat} (h : OpR S L S1 L1 o1 p1) (k : OpR S L S2 L2 o2 p2) : S1 = S2 ∧ L1 = L2 ∧ o1 = o2 ∧ p1 = p2 := by
  rcases h with ⟨h0, rfl, rfl, rfl, rfl⟩ | ⟨h0, o0, p0, hl, hh⟩
  · rcases k with ⟨_, rfl, rfl, rfl, rfl⟩ | ⟨k0, _⟩
    · exact ⟨rfl, rfl, rfl, rfl⟩
    · rw [h0] at k0; cases k0
  · rcases k with ⟨k0, _⟩ | ⟨k0, o3, p3, kl, kk⟩
    · rw [h0] at k0; cases k0
    · obtain ⟨rfl, rfl⟩ := hl.same kl
      rcases hh with ⟨h1, rfl, rfl, rfl, rfl⟩ | ⟨h1, rfl, rfl, rfl, rfl⟩
      · rcases kk with ⟨_, rfl, rfl, rfl, rfl⟩ | ⟨k1, _⟩
        · exact ⟨rfl, rfl, rfl, rfl⟩
        · exact absurd h1 k1
      · rcases kk with ⟨k1, _⟩ | ⟨_, rfl, rfl, rfl, rfl⟩
        · exact absurd k1 h1
        · exact ⟨rfl, rfl, rfl, rfl⟩
theorem lAt_app (L M : List (Int × ByteArray)) (j : Nat) (h : j < (L ++ M).length) : lAt (L ++ M) j ∈ M ∨ (j < L.length ∧ lAt (L ++ M) j = lAt L j) := by
  by_cases hj : j < L.length
  · exact .inr ⟨hj, by simp [lAt, List.getD, List.getElem?_append_left hj]⟩
  · refine .inl ?_
    have h2 : j - L.length < M.length := by rw [List.length_append] at h; omega
    have : lAt (L ++ M) j = M[j - L.length] := by simp [lAt, List.getD, List.getElem?_append_right (show L.length ≤ j by omega), h2]
    rw [this]
    exact List.getElem_mem h2
theorem dok_app {S : List ByteArray} {L : List (Int × ByteArray)} {E : List ByteArray} {p : Nat} (h : DOk S L) (hl : (emTo E p S.length).length + L.length ≤ 3000) : DOk S (L ++ emTo E p S.length) := by
  refine ⟨⟨h.1.1, by rw [List.length_append]; omega⟩, h.2.1, fun j hj => ?_⟩
  rcases lAt_app L (emTo E p S.length) j hj with hm | ⟨hj2, e⟩
  · obtain ⟨a, b, c, d⟩ := emTo_in E p S.length _ hm
    exact ⟨decide_eq_true ⟨b, c⟩, by rw [d]; decide⟩
  · rw [e]
    exact h.2.2 j hj2
/-- A slice of texts lies apart from the sectors of a disk. -/
def Ap (u v : Value) : Prop := ∀ va vb, v = .agg #[va, vb] → ∀ g, u.ownBlock = some g → some g ≠ va.ownBlock

set_option maxRecDepth 100000 in
set_option maxHeartbeats 3200000 in
theorem impl_logOpen (v : Value) (S : List ByteArray) (L : List (Int × ByteArray)) (w : World) (h1 : S.length ≤ 1048576) (h2 : L.length ≤ 1048576) (hv : DP w v S L) :
    Calls Try.prog 17 #[v] w fun e w' => ∃ v' u' S' L' o p, e = .returned (.tuple #[v', u', .int .i64 (p : Nat)]) ∧ DO w' w.heap.size v' S' L' ∧ OwG w' w.heap.size 9 1 u' o.length (encS o) ∧ Ap u' v' ∧ OpR S L S' L' o p ∧ Below w.heap.size w w' := by
  obtain ⟨a, c, a', c', e0, r1, r2, p1, p2⟩ := id hv
  subst e0
  obtain ⟨n1, n2, n3⟩ := new_two w [.slice a S.length c, .slice a' L.length c'] [.slice none 0 0, .slice none 0 0] 27 27
  have N := hid n1
  have O := hid n2
  have B := hid n3
  have V := hid (hv.below (Nat.le_refl _) n3)
  have q0 := N.out.cell (i := 0) rfl
  have q1 := N.out.cell (i := 1) rfl
  clear n1 n2 n3 r1 r2 p1 p2 hv
  have HOK := hid (impl_ok _ S L _ V.out.dv)
  go_enter Try.func17, Try.ntmps17
  go_wp2_with fail
  refine HOK.out.mono ?_
  clear HOK q0 q1
  generalize (w.alloc _).alloc _ = w0 at *
  rintro e w1 ⟨rfl, hb⟩
  replace B := hid (B.out.trans (hb.mono B.out.size))
  replace N := hid (N.out.below hb N.out.lt)
  replace O := hid (O.out.below hb O.out.lt)
  replace V := hid (V.out.below (Nat.le_refl _) hb)
  clear hb
  have q0 := N.out.cell (i := 0) rfl
  have q1 := N.out.cell (i := 1) rfl
  have k0 := O.out.cell (i := 0) rfl
  have k1 := O.out.cell (i := 1) rfl
  have l0 := O.out.free 0
  have l1 := O.out.free 1
  cases hO1 : okB S L with
  | false =>
    have HCP := hid (fun wz hz => copy_disk (.agg #[.slice a S.length c, .slice a' L.length c']) S L wz h1 h2 hz)
    go_wp2_with fail
    refine (HCP.out _ V.out).mono ?_
    have hO := O.out.lt
    rintro e w2 ⟨v', rfl, ⟨va, vb, rfl, ho1, ho2⟩, hb⟩
    obtain ⟨xa, xc, rfl, _, _⟩ := ho1.shape
    obtain ⟨ya, yc, rfl, _, _⟩ := ho2.shape
    have hs12 := hb.size
    replace B := hid (B.out.trans (hb.mono B.out.size))
    replace O := hid (O.out.below hb hO)
    clear hb q0 q1 k0 k1 l0 l1 HCP V N
    have hbE := (Below.refl w2.heap.size w2).alloc (Nat.le_refl _) (.cells #[] 9)
    have OE := hid (OwG.empty w2 w.heap.size 9 1 (by have := B.out.size; exact this))
    have G1 := hid (ho1.below hbE)
    have G2 := hid (ho2.below hbE)
    have HLT := hid (fun g e => (ho1.2.lt g e).2)
    replace B := hid (B.out.trans (hbE.mono B.out.size))
    replace O := hid (O.out.below hbE O.out.lt)
    clear ho1 ho2 hbE
    have k0 := O.out.cell (i := 0) rfl
    have k1 := O.out.cell (i := 1) rfl
    have l0 := O.out.free 0
    have l1 := O.out.free 1
    have F := (O.out.set 0 (.slice xa S.length xc)).set 1 (.slice ya L.length yc)
    have y0 := F.cell (i := 0) rfl
    have y1 := F.cell (i := 1) rfl
    clear F
    go_wp2_with fail
    generalize w2.alloc (.cells #[] 9) = w3 at *
    refine bodyPost_ret (v := .tuple #[.agg #[.slice xa S.length xc, .slice ya L.length yc], .slice (some ⟨w2.heap.size, 0, none⟩) 0 0, .int .i64 0]) (by simp [results, Try.results17, go_sem, y0, y1]) rfl ?_
    refine ⟨_, _, S, L, [], 0, rfl, ⟨_, _, rfl, ?_, ?_⟩, ?_, ?_, .inl ⟨hO1, rfl, rfl, rfl, rfl⟩, (B.out.setCell (p := ⟨w.heap.size + 1, 0, none⟩) (Nat.le_succ _) _).setCell (p := ⟨w.heap.size + 1, 1, none⟩) (Nat.le_succ _) _⟩
    · exact ((G1.out.setCell_below (a := ⟨w.heap.size + 1, 0, none⟩) hO _).setCell_below (a := ⟨w.heap.size + 1, 1, none⟩) hO _).mono (by have := hO; omega)
    · exact ((G2.out.setCell_below (a := ⟨w.heap.size + 1, 0, none⟩) hO _).setCell_below (a := ⟨w.heap.size + 1, 1, none⟩) hO _).mono (by have := hO; omega)
    · exact (OE.out.setCell_other (a := ⟨w.heap.size + 1, 0, none⟩) (by simp [Value.ownBlock]; omega) _).setCell_other (a := ⟨w.heap.size + 1, 1, none⟩) (by simp [Value.ownBlock]; omega) _
    · intro va vb e g hg e2
      cases e
      have := HLT.out g e2.symm
      simp [Value.ownBlock] at hg
      omega
  | true =>
    have HKK := hid (okB_iff hO1)
    have HLR := hid (fun wz hz => impl_logRead (.agg #[.slice a S.length c, .slice a' L.length c']) S L wz hz)
    have hbw1 := B.out.size
    go_wp2_with fail
    refine (HLR.out _ V.out).mono ?_
    rintro e w2 ⟨u, o, p, rfl, hou, hlr, hb⟩
    obtain ⟨ua, uc, rfl, _, _⟩ := hou.shape
    replace B := hid (B.out.trans (hb.mono B.out.size))
    replace N := hid (N.out.below hb N.out.lt)
    replace O := hid (O.out.below hb O.out.lt)
    replace V := hid (V.out.below (Nat.le_refl _) hb)
    have U := hid hou
    have HLG : Hid (Log (eff S L) o p) := hid (by
      rcases hlr with ⟨_, h⟩ | ⟨h, _⟩
      · exact h
      · rw [hO1] at h; cases h)
    have hs12 := hb.size
    clear hb hou hlr q0 q1 k0 k1 l0 l1
    have q0 := N.out.cell (i := 0) rfl
    have q1 := N.out.cell (i := 1) rfl
    go_wp2_with fail
    refine open_region _ w.heap.size p _ _ _ _ _ _ _ _ _ _ _ _ _ _ _ _ _ _ _ _ _ _ _ _ a c a' c' S L _ w2 h1 h2 HKK.out N.out V.out ?_
    intro u20 u21 u22 u23 u24 u25 u26 u27 Bx xa xc ya yc wq hBx bX g1 g2 hb
    have hO := O.out.lt
    have hN := N.out.lt
    have hLU := hid (fun g (e : (Value.slice ua o.length uc).ownBlock = some g) => (U.out.2.lt g e).2)
    replace B := hid (B.out.trans (hb.mono B.out.size))
    replace O := hid (O.out.below hb hO)
    replace U := hid (U.out.below hb)
    have hs2q := hb.size
    have X := hid bX
    have G1 := hid g1
    have G2 := hid g2
    clear bX g1 g2 hb q0 q1 N V
    have HML := hid (emTo_len (eff S L) p S.length)
    have HRE := hid (show ∀ S' L' o' p', (((emTo (eff S L) p S.length).length + L.length ≤ 3000 ∧ S' = crTo S (L ++ emTo (eff S L) p S.length) kpAll (L ++ emTo (eff S L) p S.length).length ∧ L' = [] ∧ o' = o ∧ p' = p) ∨ (¬ (emTo (eff S L) p S.length).length + L.length ≤ 3000 ∧ S' = S ∧ L' = L ∧ o' = [] ∧ p' = 0)) → OpR S L S' L' o' p' from fun S' L' o' p' h => .inr ⟨hO1, o, p, HLG.out, h⟩)
    have HDA := hid (fun h => dok_app (E := eff S L) (p := p) HKK.out h)
    generalize emTo (eff S L) p S.length = M at *
    have z0 := X.out.cell (i := 0) rfl
    have z1 := X.out.cell (i := 1) rfl
    have k0 := O.out.cell (i := 0) rfl
    have k1 := O.out.cell (i := 1) rfl
    have l0 := O.out.free 0
    have l1 := O.out.free 1
    by_cases hh : M.length + L.length ≤ 3000
    · have hd : decide (M.length + L.length ≤ 3000) = true := decide_eq_true hh
      have hw : wlL L M = L ++ M := by unfold wlL; rw [if_pos hh]
      rw [hd]
      rw [hw] at X G2 z1
      have HSY := hid (impl_sync (.agg #[.slice xa S.length xc, .slice ya (L ++ M).length yc]) S (L ++ M) wq h1 (by rw [List.length_append]; omega) (show DO _ _ _ S (L ++ M) from ⟨_, _, rfl, G1.out, G2.out⟩).dp)
      have hok2 : okB S (L ++ M) = true := okB_yes (HDA.out hh)
      rw [bhS_yes hok2, bhL_yes hok2] at HSY
      have HRE2 := hid (HRE.out _ _ _ _ (.inl ⟨hh, rfl, rfl, rfl, rfl⟩))
      generalize crTo S (L ++ M) kpAll (L ++ M).length = RS at *
      generalize L ++ M = LM at *
      clear hd hw hok2 HRE HDA
      go_wp2_with fail
      refine HSY.out.mono ?_
      rintro e w3 ⟨v3, rfl, ⟨va, vb, rfl, ho1, ho2⟩, hb⟩
      obtain ⟨ja, jc, rfl, _, _⟩ := ho1.shape
      obtain ⟨ma, mc, rfl, _, _⟩ := ho2.shape
      replace B := hid (B.out.trans (hb.mono B.out.size))
      replace O := hid (O.out.below hb O.out.lt)
      replace U := hid (U.out.below hb)
      have H1 := hid ho1
      have H2 := hid ho2
      clear ho1 ho2 hb z0 z1 k0 k1 l0 l1 HSY
      have k0 := O.out.cell (i := 0) rfl
      have k1 := O.out.cell (i := 1) rfl
      have l0 := O.out.free 0
      have l1 := O.out.free 1
      have F := (O.out.set 0 (.slice ja RS.length jc)).set 1 (.slice ma 0 mc)
      have y0 := F.cell (i := 0) rfl
      have y1 := F.cell (i := 1) rfl
      clear F
      go_wp2_with fail
      refine bodyPost_ret (v := .tuple #[.agg #[.slice ja RS.length jc, .slice ma 0 mc], .slice ua o.length uc, .int .i64 (p : Int)]) (by simp [results, Try.results17, go_sem, y0, y1]) rfl ?_
      refine ⟨_, _, RS, [], o, p, rfl, ⟨_, _, rfl, ?_, ?_⟩, ?_, ?_, HRE2.out, (B.out.setCell (p := ⟨w.heap.size + 1, 0, none⟩) (Nat.le_succ _) _).setCell (p := ⟨w.heap.size + 1, 1, none⟩) (Nat.le_succ _) _⟩
      · exact ((H1.out.setCell_below (a := ⟨w.heap.size + 1, 0, none⟩) (by show w.heap.size + 1 < wq.heap.size; omega) _).setCell_below (a := ⟨w.heap.size + 1, 1, none⟩) (by show w.heap.size + 1 < wq.heap.size; omega) _).mono (by omega)
      · exact ((H2.out.setCell_below (a := ⟨w.heap.size + 1, 0, none⟩) (by show w.heap.size + 1 < wq.heap.size; omega) _).setCell_below (a := ⟨w.heap.size + 1, 1, none⟩) (by show w.heap.size + 1 < wq.heap.size; omega) _).mono (by omega)
      · exact ((U.out.setCell_other (a := ⟨w.heap.size + 1, 0, none⟩) (fun e => U.out.tag O.out (by decide) e.symm) _).setCell_other (a := ⟨w.heap.size + 1, 1, none⟩) (fun e => U.out.tag O.out (by decide) e.symm) _).mono (by omega)
      · intro va vb e g hg e2
        cases e
        have := (H1.out.2.lt g e2.symm).1
        have := hLU.out g hg
        omega
    · have hd : decide (M.length + L.length ≤ 3000) = false := decide_eq_false hh
      have hw : wlL L M = L := by unfold wlL; rw [if_neg hh]
      rw [hd]
      rw [hw] at X G2 z1
      have HRE2 := hid (HRE.out S L [] 0 (.inr ⟨hh, rfl, rfl, rfl, rfl⟩))
      have HLT := hid (fun g e => (G1.out.2.lt g e).2)
      have hbw := B.out.size
      clear hd hw HRE HDA hh
      have O1 := O.out.alloc (.cells #[] 9)
      have F := (O1.set 0 (.slice xa S.length xc)).set 1 (.slice ya L.length yc)
      have y0 := F.cell (i := 0) rfl
      have y1 := F.cell (i := 1) rfl
      have k3 := O1.cell (i := 0) rfl
      have k4 := O1.cell (i := 1) rfl
      have l3 := O1.free 0
      have l4 := O1.free 1
      have hOq := hid O.out.lt
      clear O1 F
      have HG1 := hid (((G1.out.alloc (.cells #[] 9)).setCell_below (a := ⟨w.heap.size + 1, 0, none⟩) hO (.slice xa S.length xc)).setCell_below (a := ⟨w.heap.size + 1, 1, none⟩) hO (.slice ya L.length yc))
      have HG2 := hid (((G2.out.alloc (.cells #[] 9)).setCell_below (a := ⟨w.heap.size + 1, 0, none⟩) hO (.slice xa S.length xc)).setCell_below (a := ⟨w.heap.size + 1, 1, none⟩) hO (.slice ya L.length yc))
      have HBB := hid (((B.out.alloc B.out.size (.cells #[] 9)).setCell (p := ⟨w.heap.size + 1, 0, none⟩) (Nat.le_succ _) (.slice xa S.length xc)).setCell (p := ⟨w.heap.size + 1, 1, none⟩) (Nat.le_succ _) (.slice ya L.length yc))
      have HOE := hid (((OwG.empty wq w.heap.size 9 1 hbw).setCell_other (a := ⟨w.heap.size + 1, 0, none⟩) (by have := hOq.out; simp [Value.ownBlock]; omega) (.slice xa S.length xc)).setCell_other (a := ⟨w.heap.size + 1, 1, none⟩) (by have := hOq.out; simp [Value.ownBlock]; omega) (.slice ya L.length yc))
      go_wp2_with fail
      refine bodyPost_ret (v := .tuple #[.agg #[.slice xa S.length xc, .slice ya L.length yc], .slice (some ⟨wq.heap.size, 0, none⟩) 0 0, .int .i64 0]) (by simp [results, Try.results17, go_sem, y0, y1]) rfl ?_
      refine ⟨_, _, S, L, [], 0, rfl, ⟨_, _, rfl, HG1.out.mono (by omega), HG2.out.mono (by omega)⟩, HOE.out, ?_, HRE2.out, HBB.out⟩
      intro va vb e g hg e2
      cases e
      have := HLT.out g e2.symm
      simp [Value.ownBlock] at hg
      omega
end Go.Proofs.Ytphhgfgmlfdkiaa
