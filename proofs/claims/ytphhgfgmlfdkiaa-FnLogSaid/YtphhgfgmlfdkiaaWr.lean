/- Contracts of DiskWrite, of the program and of the specification. -/
import Derived.Test.YtphhgfgmlfdkiaaCp
import Derived.Test.YtphhgfgmlfdkiaaFr
namespace Go.Proofs.Ytphhgfgmlfdkiaa
open Go.RowKit
set_option linter.unusedVariables false

/-- A write may come behind. -/
def wrB (S : List ByteArray) (L : List (Int × ByteArray)) (i : Int) (s : ByteArray) : Bool := okB S L && (hasS S.length i && (decide (s.size ≤ 128) && decide (L.length < 3000)))
/-- What is late then. -/
def wrL (S : List ByteArray) (L : List (Int × ByteArray)) (i : Int) (s : ByteArray) : List (Int × ByteArray) := if wrB S L i s = true then L ++ [(i, s)] else L
theorem wrL_yes {S : List ByteArray} {L : List (Int × ByteArray)} {i : Int} {s : ByteArray} (h : wrB S L i s = true) : wrL S L i s = L ++ [(i, s)] := by unfold wrL; rw [if_pos h]
theorem wrL_no {S : List ByteArray} {L : List (Int × ByteArray)} {i : Int} {s : ByteArray} (h : wrB S L i s = false) : wrL S L i s = L := by unfold wrL; rw [if_neg (by rw [h]; exact Bool.noConfusion)]
theorem wrL_len (S : List ByteArray) (L : List (Int × ByteArray)) (i : Int) (s : ByteArray) : (wrL S L i s).length ≤ L.length + 1 := by
  unfold wrL
  split
  · simp
  · omega
theorem one_W (i : Int) (s : ByteArray) : ∀ u ∈ [Value.int .i64 i, .string s], u.oneCell' = true := fun u hu => by
  simp at hu
  rcases hu with rfl | rfl <;> rfl
theorem encW_snoc (L : List (Int × ByteArray)) (i : Int) (s : ByteArray) : encW L ++ [.int .i64 i, .string s] = encW (L ++ [(i, s)]) := by rw [encW_app]; rfl

theorem OwG.cast2 {w : World} {base e sz : Nat} {v : Value} {n n' : Nat} {cs cs' : List Value} (h : OwG w base e sz v n cs) (hn : n = n') (hc : cs = cs') : OwG w base e sz v n' cs' := by subst hn; subst hc; exact h

set_option maxRecDepth 100000 in
set_option maxHeartbeats 3200000 in
theorem spec_write (v : Value) (S : List ByteArray) (L : List (Int × ByteArray)) (i : Int) (s : ByteArray) (w : World) (h1 : S.length ≤ 1048576) (h2 : L.length ≤ 1048576) (hv : DP w v S L) :
    Calls Try.prog 86 #[v, .int .i64 i, .string s] w fun e w' => ∃ v', e = .returned (.tuple #[v', .bool (wrB S L i s)]) ∧ DO w' w.heap.size v' S (wrL S L i s) ∧ Below w.heap.size w w' := by
  obtain ⟨a, c, a', c', e0, r1, r2, p1, p2⟩ := id hv
  subst e0
  obtain ⟨n1, n2, n3⟩ := new_two w [.slice a S.length c, .slice a' L.length c'] [.slice none 0 0, .slice none 0 0] 27 27
  have N := hid n1
  have O := hid n2
  have B := hid n3
  have V := hid (hv.below (Nat.le_refl _) n3)
  have HHS := hid (fun q => spec_has S.length i q)
  have HEN := hid (encW_snoc L i s)
  clear n1 n2 n3 r1 r2 p1 p2 hv
  have HD := hid (show wrB S L i s = (okB S L && (hasS S.length i && (decide (s.size ≤ 128) && decide (L.length < 3000)))) from rfl)
  have HLY := hid (fun h => wrL_yes (S := S) (L := L) (i := i) (s := s) h)
  have HLN := hid (fun h => wrL_no (S := S) (L := L) (i := i) (s := s) h)
  have HOKL := hid (fun h => (okB_iff (S := S) (L := L) h).1.2)
  generalize wrB S L i s = R at *
  generalize wrL S L i s = RL at *
  have q0 := N.out.cell (i := 0) rfl
  have q1 := N.out.cell (i := 1) rfl
  go_enter Try.func86, Try.ntmps86
  go_wp2_with fail
  clear q0 q1
  refine (spec_copy _ S L _ h1 h2 V.out).mono ?_
  generalize (w.alloc _).alloc _ = wa at *
  have hO := O.out.lt
  have hN := N.out.lt
  rintro e w1 ⟨v', rfl, ⟨va, vb, rfl, ho1, ho2⟩, hb⟩
  obtain ⟨xa, xc, rfl, _, _⟩ := ho1.shape
  obtain ⟨ya, yc, rfl, _, _⟩ := ho2.shape
  have hwa1 := hb.size
  have KN := N.out.below hb N.out.lt
  have q0 := KN.cell (i := 0) rfl
  have q1 := KN.cell (i := 1) rfl
  have f0 := KN.free 0
  have f1 := KN.free 1
  have KN1 := KN.set 0 (.slice xa S.length xc)
  have q3 := KN1.cell (i := 1) rfl
  have f3 := KN1.free 1
  have KN2 := KN1.set 1 (.slice ya L.length yc)
  have q4 := KN2.cell (i := 0) rfl
  have q5 := KN2.cell (i := 1) rfl
  replace B := hid (((B.out.trans (hb.mono B.out.size)).setCell (p := ⟨w.heap.size, 0, none⟩) (Nat.le_refl _) (.slice xa S.length xc)).setCell (p := ⟨w.heap.size, 1, none⟩) (Nat.le_refl _) (.slice ya L.length yc))
  replace O := hid (((O.out.below hb O.out.lt).other (a := ⟨w.heap.size, 0, none⟩) (by show w.heap.size + 1 ≠ w.heap.size; omega) (.slice xa S.length xc)).other (a := ⟨w.heap.size, 1, none⟩) (by show w.heap.size + 1 ≠ w.heap.size; omega) (.slice ya L.length yc))
  have G1 := hid ((ho1.setCell_below (a := ⟨w.heap.size, 0, none⟩) hN (.slice xa S.length xc)).setCell_below (a := ⟨w.heap.size, 1, none⟩) hN (.slice ya L.length yc))
  have G2 := hid ((ho2.setCell_below (a := ⟨w.heap.size, 0, none⟩) hN (.slice xa S.length xc)).setCell_below (a := ⟨w.heap.size, 1, none⟩) hN (.slice ya L.length yc))
  replace N := hid KN2
  have HOK := hid (spec_ok (.agg #[.slice xa S.length xc, .slice ya L.length yc]) S L ((w1.setCell ⟨w.heap.size, 0, none⟩ (.slice xa S.length xc)).setCell ⟨w.heap.size, 1, none⟩ (.slice ya L.length yc)) ⟨_, _, _, _, rfl, G1.out.rw, G2.out.rw⟩)
  clear ho1 ho2 hb V KN KN1 KN2
  cases hO1 : okB S L with
  | false =>
    rw [hO1] at HOK
    have HR : Hid (R = false) := hid (by rw [HD.out, hO1]; rfl)
    have HRL := hid (HLN.out HR.out)
    have e1 := HR.out
    subst e1
    have e2 := HRL.out
    subst e2
    go_wp2_with ((go_at_call 25; refine HOK.out.mono ?_; generalize (w1.setCell _ _).setCell _ _ = wb at *; rintro e w2 ⟨rfl, hb⟩; replace B := hid (B.out.trans (hb.mono B.out.size)); replace N := hid (N.out.below hb N.out.lt); replace O := hid (O.out.below hb O.out.lt); replace G1 := hid (G1.out.below hb); replace G2 := hid (G2.out.below hb); clear hb; have z0 := N.out.cell (i := 0) rfl; have z1 := N.out.cell (i := 1) rfl; have k0 := O.out.cell (i := 0) rfl; have k1 := O.out.cell (i := 1) rfl; have l0 := O.out.free 0; have l1 := O.out.free 1; have m1 := N.out.free 1))
    have F := (O.out.set 0 (.slice xa S.length xc)).set 1 (.slice ya RL.length yc)
    have y0 := F.cell (i := 0) rfl
    have y1 := F.cell (i := 1) rfl
    clear F
    refine bodyPost_ret (v := .tuple #[.agg #[.slice xa S.length xc, .slice ya RL.length yc], .bool false]) (by simp [results, Try.results86, go_sem, y0, y1]) rfl ?_
    refine ⟨_, rfl, ⟨_, _, rfl, ?_, ?_⟩, (B.out.setCell (p := ⟨w.heap.size + 1, 0, none⟩) (Nat.le_succ _) _).setCell (p := ⟨w.heap.size + 1, 1, none⟩) (Nat.le_succ _) _⟩
    · exact ((G1.out.setCell_below (a := ⟨w.heap.size + 1, 0, none⟩) hO _).setCell_below (a := ⟨w.heap.size + 1, 1, none⟩) hO _).mono (by omega)
    · exact ((G2.out.setCell_below (a := ⟨w.heap.size + 1, 0, none⟩) hO _).setCell_below (a := ⟨w.heap.size + 1, 1, none⟩) hO _).mono (by omega)
  | true =>
    rw [hO1] at HOK
    have hl3 := HOKL.out hO1
    cases hO2 : hasS S.length i with
    | false =>
      rw [hO2] at HHS
      have HR : Hid (R = false) := hid (by rw [HD.out, hO1, hO2]; rfl)
      have HRL := hid (HLN.out HR.out)
      have e1 := HR.out
      subst e1
      have e2 := HRL.out
      subst e2
      go_wp2_with (first
          | (go_at_call 25; refine HOK.out.mono ?_; generalize (w1.setCell _ _).setCell _ _ = wb at *; rintro e w2 ⟨rfl, hb⟩; replace B := hid (B.out.trans (hb.mono B.out.size)); replace N := hid (N.out.below hb N.out.lt); replace O := hid (O.out.below hb O.out.lt); replace G1 := hid (G1.out.below hb); replace G2 := hid (G2.out.below hb); clear hb; have z0 := N.out.cell (i := 0) rfl; have z1 := N.out.cell (i := 1) rfl; have k0 := O.out.cell (i := 0) rfl; have k1 := O.out.cell (i := 1) rfl; have l0 := O.out.free 0; have l1 := O.out.free 1; have m1 := N.out.free 1)
          | (go_at_call 55; refine (HHS.out _).mono ?_; rintro e w3 ⟨rfl, rfl⟩))
      have F := (O.out.set 0 (.slice xa S.length xc)).set 1 (.slice ya RL.length yc)
      have y0 := F.cell (i := 0) rfl
      have y1 := F.cell (i := 1) rfl
      clear F
      refine bodyPost_ret (v := .tuple #[.agg #[.slice xa S.length xc, .slice ya RL.length yc], .bool false]) (by simp [results, Try.results86, go_sem, y0, y1]) rfl ?_
      refine ⟨_, rfl, ⟨_, _, rfl, ?_, ?_⟩, (B.out.setCell (p := ⟨w.heap.size + 1, 0, none⟩) (Nat.le_succ _) _).setCell (p := ⟨w.heap.size + 1, 1, none⟩) (Nat.le_succ _) _⟩
      · exact ((G1.out.setCell_below (a := ⟨w.heap.size + 1, 0, none⟩) hO _).setCell_below (a := ⟨w.heap.size + 1, 1, none⟩) hO _).mono (by omega)
      · exact ((G2.out.setCell_below (a := ⟨w.heap.size + 1, 0, none⟩) hO _).setCell_below (a := ⟨w.heap.size + 1, 1, none⟩) hO _).mono (by omega)
    | true =>
      rw [hO2] at HHS
      by_cases hs : (128 : Int) < (s.size : Int)
      · have hs' : decide (s.size ≤ 128) = false := decide_eq_false (by omega)
        have HR : Hid (R = false) := hid (by rw [HD.out, hO1, hO2, hs']; rfl)
        have HRL := hid (HLN.out HR.out)
        have e1 := HR.out
        subst e1
        have e2 := HRL.out
        subst e2
        go_wp2_with (first
          | (go_at_call 25; refine HOK.out.mono ?_; generalize (w1.setCell _ _).setCell _ _ = wb at *; rintro e w2 ⟨rfl, hb⟩; replace B := hid (B.out.trans (hb.mono B.out.size)); replace N := hid (N.out.below hb N.out.lt); replace O := hid (O.out.below hb O.out.lt); replace G1 := hid (G1.out.below hb); replace G2 := hid (G2.out.below hb); clear hb; have z0 := N.out.cell (i := 0) rfl; have z1 := N.out.cell (i := 1) rfl; have k0 := O.out.cell (i := 0) rfl; have k1 := O.out.cell (i := 1) rfl; have l0 := O.out.free 0; have l1 := O.out.free 1; have m1 := N.out.free 1)
          | (go_at_call 55; refine (HHS.out _).mono ?_; rintro e w3 ⟨rfl, rfl⟩))
        have F := (O.out.set 0 (.slice xa S.length xc)).set 1 (.slice ya RL.length yc)
        have y0 := F.cell (i := 0) rfl
        have y1 := F.cell (i := 1) rfl
        clear F
        refine bodyPost_ret (v := .tuple #[.agg #[.slice xa S.length xc, .slice ya RL.length yc], .bool false]) (by simp [results, Try.results86, go_sem, y0, y1]) rfl ?_
        refine ⟨_, rfl, ⟨_, _, rfl, ?_, ?_⟩, (B.out.setCell (p := ⟨w.heap.size + 1, 0, none⟩) (Nat.le_succ _) _).setCell (p := ⟨w.heap.size + 1, 1, none⟩) (Nat.le_succ _) _⟩
        · exact ((G1.out.setCell_below (a := ⟨w.heap.size + 1, 0, none⟩) hO _).setCell_below (a := ⟨w.heap.size + 1, 1, none⟩) hO _).mono (by omega)
        · exact ((G2.out.setCell_below (a := ⟨w.heap.size + 1, 0, none⟩) hO _).setCell_below (a := ⟨w.heap.size + 1, 1, none⟩) hO _).mono (by omega)
      · have hs' : decide (s.size ≤ 128) = true := decide_eq_true (by omega)
        by_cases hl : (3000 : Int) ≤ (L.length : Int)
        · have hl' : decide (L.length < 3000) = false := decide_eq_false (by omega)
          have HR : Hid (R = false) := hid (by rw [HD.out, hO1, hO2, hs', hl']; rfl)
          have HRL := hid (HLN.out HR.out)
          have e1 := HR.out
          subst e1
          have e2 := HRL.out
          subst e2
          go_wp2_with (first
          | (go_at_call 25; refine HOK.out.mono ?_; generalize (w1.setCell _ _).setCell _ _ = wb at *; rintro e w2 ⟨rfl, hb⟩; replace B := hid (B.out.trans (hb.mono B.out.size)); replace N := hid (N.out.below hb N.out.lt); replace O := hid (O.out.below hb O.out.lt); replace G1 := hid (G1.out.below hb); replace G2 := hid (G2.out.below hb); clear hb; have z0 := N.out.cell (i := 0) rfl; have z1 := N.out.cell (i := 1) rfl; have k0 := O.out.cell (i := 0) rfl; have k1 := O.out.cell (i := 1) rfl; have l0 := O.out.free 0; have l1 := O.out.free 1; have m1 := N.out.free 1)
          | (go_at_call 55; refine (HHS.out _).mono ?_; rintro e w3 ⟨rfl, rfl⟩))
          have F := (O.out.set 0 (.slice xa S.length xc)).set 1 (.slice ya RL.length yc)
          have y0 := F.cell (i := 0) rfl
          have y1 := F.cell (i := 1) rfl
          clear F
          refine bodyPost_ret (v := .tuple #[.agg #[.slice xa S.length xc, .slice ya RL.length yc], .bool false]) (by simp [results, Try.results86, go_sem, y0, y1]) rfl ?_
          refine ⟨_, rfl, ⟨_, _, rfl, ?_, ?_⟩, (B.out.setCell (p := ⟨w.heap.size + 1, 0, none⟩) (Nat.le_succ _) _).setCell (p := ⟨w.heap.size + 1, 1, none⟩) (Nat.le_succ _) _⟩
          · exact ((G1.out.setCell_below (a := ⟨w.heap.size + 1, 0, none⟩) hO _).setCell_below (a := ⟨w.heap.size + 1, 1, none⟩) hO _).mono (by omega)
          · exact ((G2.out.setCell_below (a := ⟨w.heap.size + 1, 0, none⟩) hO _).setCell_below (a := ⟨w.heap.size + 1, 1, none⟩) hO _).mono (by omega)
        · have hl' : decide (L.length < 3000) = true := decide_eq_true (by omega)
          have HR : Hid (R = true) := hid (by rw [HD.out, hO1, hO2, hs', hl']; rfl)
          have HRL := hid (HLY.out HR.out)
          have e1 := HR.out
          subst e1
          have e2 := HRL.out
          subst e2
          have hone := one_W i s
          have hl4 : L.length < 1000000000 := by omega
          go_wp2_with (first
            | (go_at_call 25; refine HOK.out.mono ?_; generalize (w1.setCell _ _).setCell _ _ = wb at *; rintro e w2 ⟨rfl, hb⟩; replace B := hid (B.out.trans (hb.mono B.out.size)); replace N := hid (N.out.below hb N.out.lt); replace O := hid (O.out.below hb O.out.lt); replace G1 := hid (G1.out.below hb); replace G2 := hid (G2.out.below hb); clear hb; have z0 := N.out.cell (i := 0) rfl; have z1 := N.out.cell (i := 1) rfl; have k0 := O.out.cell (i := 0) rfl; have k1 := O.out.cell (i := 1) rfl; have l0 := O.out.free 0; have l1 := O.out.free 1; have m1 := N.out.free 1)
            | (go_at_call 55; refine (HHS.out _).mono ?_; rintro e w3 ⟨rfl, rfl⟩)
            | (at_builtin; refine wpList_pushG w2 w2.heap.size rfl rfl _ _ 25 rfl wa.heap.size 69 (.agg #[.int .i64 0, .string ByteArray.empty]) 2 24 Try.underlying25 Try.info69 rfl (by decide) (.slice ya L.length yc) L.length (encW L) rfl G2.out [.int .i64 i, .string s] rfl hone rfl hl4 (by decide) ?_))
          intro v4 w4 ho4 hb4 hg4 _
          obtain ⟨va4, vc4, rfl, _, _⟩ := ho4.shape
          have X4 := N.out.below hb4 hN
          have O4 := O.out.below hb4 hO
          have H1 := G1.out.kept hg4 (G1.out.apart G2.out (by decide))
          have B4 := B.out.trans (hb4.mono (by omega))
          have c0 := X4.cell (i := 0) rfl
          have c1 := X4.cell (i := 1) rfl
          have f1 := X4.free 1
          have X5 := X4.set 1 (.slice va4 (L.length + 1) vc4)
          have O5 := O4.other (a := ⟨w.heap.size, 1, none⟩) (by show w.heap.size + 1 ≠ w.heap.size; omega) (.slice va4 (L.length + 1) vc4)
          have d0 := X5.cell (i := 0) rfl
          have d1 := X5.cell (i := 1) rfl
          have g0 := O5.cell (i := 0) rfl
          have g1 := O5.cell (i := 1) rfl
          have i0 := O5.free 0
          have i1 := O5.free 1
          have F := (O5.set 0 (.slice xa S.length xc)).set 1 (.slice va4 (L.length + 1) vc4)
          have y0 := F.cell (i := 0) rfl
          have y1 := F.cell (i := 1) rfl
          have H1' := hid (H1.setCell_below (a := ⟨w.heap.size, 1, none⟩) hN (.slice va4 (L.length + 1) vc4))
          have H2' := hid ((ho4.setCell_below (a := ⟨w.heap.size, 1, none⟩) hN (.slice va4 (L.length + 1) vc4)).cast2 rfl HEN.out)
          have B5 := hid (B4.setCell (p := ⟨w.heap.size, 1, none⟩) (Nat.le_refl _) (.slice va4 (L.length + 1) vc4))
          clear X4 O4 H1 ho4 hb4 hg4 B4 X5 O5 F z0 z1 k0 k1 l0 l1 m1
          go_wp2_with fail
          refine bodyPost_ret (v := .tuple #[.agg #[.slice xa S.length xc, .slice va4 (L.length + 1) vc4], .bool true]) (by simp [results, Try.results86, go_sem, y0, y1]) rfl ?_
          refine ⟨_, rfl, ⟨_, _, rfl, ?_, ?_⟩, (B5.out.setCell (p := ⟨w.heap.size + 1, 0, none⟩) (Nat.le_succ _) _).setCell (p := ⟨w.heap.size + 1, 1, none⟩) (Nat.le_succ _) _⟩
          · exact ((H1'.out.setCell_below (a := ⟨w.heap.size + 1, 0, none⟩) hO _).setCell_below (a := ⟨w.heap.size + 1, 1, none⟩) hO _).mono (by omega)
          · exact (((H2'.out.setCell_below (a := ⟨w.heap.size + 1, 0, none⟩) hO _).setCell_below (a := ⟨w.heap.size + 1, 1, none⟩) hO _).mono (by omega)).cast2 (by simp) rfl
end Go.Proofs.Ytphhgfgmlfdkiaa
