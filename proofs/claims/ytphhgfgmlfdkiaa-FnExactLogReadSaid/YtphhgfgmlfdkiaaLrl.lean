/- The walk of the law FnExactLogRead. -/
import Derived.Test.YtphhgfgmlfdkiaaLr
import Derived.Test.YtphhgfgmlfdkiaaTo
import Derived.Test.YtphhgfgmlfdkiaaEq
import Derived.Test.YtphhgfgmlfdkiaaFr
namespace Go.Proofs.Ytphhgfgmlfdkiaa
open Go.RowKit
set_option linter.unusedVariables false

theorem Run.part {E : List ByteArray} : ∀ (j k : Nat) (o : List ByteArray) (p : Nat), Run E (k + j) o p → ∃ o' p', Run E k o' p'
  | 0, k, o, p, h => ⟨o, p, h⟩
  | j + 1, k, o, p, h => by
    obtain ⟨o', p', _, _, h', _⟩ := (show Run E (k + j + 1) o p from h)
    exact Run.part j k o' p' h'
theorem Log.bound {E : List ByteArray} {o : List ByteArray} {p : Nat} (hE : E.length ≤ 1500) (h : Log E o p) : o.length ≤ 1500 ∧ p ≤ E.length := by
  have hl : o.length ≤ 1500 := by
    apply Classical.byContradiction
    intro hn
    obtain ⟨o', p', h'⟩ := Run.part (o.length - 1501) 1501 o p (by rw [show 1501 + (o.length - 1501) = o.length by omega]; exact h.1)
    have := h'.le (by omega)
    omega
  exact ⟨hl, (h.1.le (by omega)).2⟩
theorem LogR.len {S : List ByteArray} {L : List (Int × ByteArray)} {o : List ByteArray} {p : Nat} (h : LogR S L o p) : o.length ≤ 1500 ∧ p ≤ S.length := by
  rcases h with ⟨h1, h2⟩ | ⟨_, h2, h3⟩
  · have hD := okB_iff h1
    have h4 := eff_len S L
    have h5 := hD.1.1
    have := h2.bound (by omega)
    omega
  · subst h2
    subst h3
    simp

set_option maxRecDepth 100000 in
set_option maxHeartbeats 6400000 in
theorem law_read (a : Option Addr) (n c : Nat) (a' : Option Addr) (n' c' : Nat) (S : List ByteArray) (L : List (Int × ByteArray)) (w : World) (hn : S.length = n) (hn' : L.length = n') (hw : Wd S L) (hr1 : Rw w a (encS S)) (hr2 : Rw w a' (encW L)) :
    Calls Try.prog 7 #[.agg #[.slice a n c, .slice a' n' c']] w fun e w' => e = .returned (.bool true) ∧ Below w.heap.size w w' := by
  have HV : Hid (DV w (.agg #[.slice a n c, .slice a' n' c']) S L) := hid ⟨a, c, a', c', by rw [hn, hn'], hr1, hr2⟩
  have B := hid ((Below.refl w.heap.size w).alloc (Nat.le_refl _) (.cells #[.slice a n c, .slice a' n' c'] 53))
  have A := hid (Blk.new w [.slice a n c, .slice a' n' c'] 53)
  have HSZ := hid (sz_disk _ S L 1048576 _ hw (by decide) (by decide) (HV.out.below (Nat.le_refl _) B.out))
  clear hr1 hr2 hw hn hn'
  have HSP := hid (fun v q (hq : DV q v S L) => spec_logRead v S L q hq)
  have HIM := hid (fun v q (hq : DP q v S L) => impl_logRead v S L q hq)
  go_enter Try.func7, Try.ntmps7
  go_wp2_with fail
  refine HSZ.out.mono ?_
  clear HSZ
  generalize w.alloc (.cells #[.slice a n c, .slice a' n' c'] 53) = w0 at *
  rintro e w1 ⟨r, rfl, hr, hb⟩
  replace B := hid (B.out.trans (hb.mono B.out.size))
  replace A := hid (A.out.below hb A.out.lt)
  clear hb
  rcases hr with rfl | ⟨g0, g1, hsm⟩
  · clear A
    go_wp2_with fail
    go_ret
    exact ⟨rfl, B.out⟩
  · have HS := hid hsm
    clear hsm
    have hng : ¬ r < 0 := by omega
    have hX0 : ¬ (1 : Int) + (S.length : Int) + 2 * (L.length : Int) < 0 := by have := HS.out.1; have := HS.out.2.2.1; omega
    have HL := hid (show S.length ≤ 1048576 ∧ L.length ≤ 1048577 from ⟨HS.out.1, by have := HS.out.2.2.1; omega⟩)
    have hK0 : ¬ (1 : Int) + (S.length : Int) + 2 * (L.length : Int) < 0 := by omega
    have hKK : ((1 : Int) + (S.length : Int) + 2 * (L.length : Int) != (1 : Int) + (S.length : Int) + 2 * (L.length : Int)) = false := by simp
    have q0 := A.out.cell (i := 0) rfl
    have q1 := A.out.cell (i := 1) rfl
    go_wp2_with fail
    refine (to_disk _ S L _ HS.out (HV.out.below (Nat.le_refl _) B.out)).mono ?_
    clear q0 q1
    rintro e w2 ⟨v, rfl, ⟨va, vb, rfl, ho1, ho2⟩, hb⟩
    obtain ⟨Ta, Tc, rfl, Tp, _⟩ := ho1.shape
    obtain ⟨Tb, Td, rfl, Tr, _⟩ := ho2.shape
    replace B := hid (B.out.trans (hb.mono B.out.size))
    replace A := hid (A.out.below hb A.out.lt)
    have T1 := hid ho1
    have T2 := hid ho2
    have TP := hid (show _ ∧ _ from ⟨Tp, Tr⟩)
    clear hb ho1 ho2 Tp Tr
    go_wp2_with fail
    refine (HSP.out _ _ (show DO _ _ _ S L from ⟨_, _, rfl, T1.out, T2.out⟩).dp.dv).mono ?_
    have hALW := hid A.out.lt
    rintro e w3 ⟨v, o, p, rfl, ho1, hlr, hb⟩
    have HLR := hid hlr
    clear hlr
    obtain ⟨Wa, Wc, rfl, _, _⟩ := ho1.shape
    replace B := hid (B.out.trans (hb.mono B.out.size))
    replace A := hid (A.out.below hb A.out.lt)
    replace T1 := hid (T1.out.below hb)
    replace T2 := hid (T2.out.below hb)
    have W1 := hid ho1
    clear hb ho1
    clear T1 T2
    have HO := hid HLR.out.len
    have hPP : ((p : Int) != (p : Int)) = false := by simp
    have hM0 : ¬ (1 : Int) + (o.length : Int) < 0 := by omega
    have hMM : ((1 : Int) + (o.length : Int) != (1 : Int) + (o.length : Int)) = false := by simp
    have q0 := A.out.cell (i := 0) rfl
    have q1 := A.out.cell (i := 1) rfl
    go_wp2_with fail
    have hbsX := hid B.out.size
    have WLX := hid (fun g (e : (Value.slice Wa o.length Wc).ownBlock = some g) => (W1.out.2.lt g e).2)
    refine (to_disk _ S L _ HS.out (HV.out.below (Nat.le_refl _) B.out)).mono ?_
    clear q0 q1
    rintro e w4 ⟨v, rfl, ⟨va, vb, rfl, ho1, ho2⟩, hb⟩
    obtain ⟨Xa, Xc, rfl, Xp, _⟩ := ho1.shape
    obtain ⟨Xb, Xd, rfl, Xr, _⟩ := ho2.shape
    replace B := hid (B.out.trans (hb.mono B.out.size))
    replace A := hid (A.out.below hb A.out.lt)
    replace W1 := hid (W1.out.below hb)
    have X1 := hid ho1
    have X2 := hid ho2
    have XP := hid (show _ ∧ _ from ⟨Xp, Xr⟩)
    clear hb ho1 ho2 Xp Xr
    have hb := (Below.refl w4.heap.size w4).alloc (Nat.le_refl _) (.cells #[.slice Xa S.length Xc, .slice Xb L.length Xd] 27)
    replace B := hid (B.out.trans (hb.mono B.out.size))
    replace A := hid (A.out.below hb A.out.lt)
    replace W1 := hid (W1.out.below hb)
    replace X1 := hid (X1.out.below hb)
    replace X2 := hid (X2.out.below hb)
    have XB := hid (Blk.new w4 [.slice Xa S.length Xc, .slice Xb L.length Xd] 27)
    clear hb
    have q0 := XB.out.cell (i := 0) rfl
    have q1 := XB.out.cell (i := 1) rfl
    go_wp2_with fail
    have hbsG := hid B.out.size
    refine (HIM.out _ _ (show DO _ _ _ S L from ⟨_, _, rfl, X1.out, X2.out⟩).dp).mono ?_
    generalize w4.alloc (.cells #[.slice Xa S.length Xc, .slice Xb L.length Xd] 27) = w5 at *
    clear q0 q1
    have WLG := hid (show ∀ g, (Value.slice Wa o.length Wc).ownBlock = some g → g < w5.heap.size from fun g e => (W1.out.2.lt g e).2)
    have XLG := hid (show (∀ g, (Value.slice Xa S.length Xc).ownBlock = some g → g < w5.heap.size) ∧ (∀ g, (Value.slice Xb L.length Xd).ownBlock = some g → g < w5.heap.size) from ⟨fun g e => (X1.out.2.lt g e).2, fun g e => (X2.out.2.lt g e).2⟩)
    have hALG := hid A.out.lt
    rintro e w6 ⟨v, o2, p2, rfl, ho1, hlr, hb⟩
    obtain ⟨rfl, rfl⟩ := HLR.out.same hlr
    clear hlr
    obtain ⟨Ga, Gc, rfl, _, _⟩ := ho1.shape
    replace B := hid (B.out.trans (hb.mono B.out.size))
    replace A := hid (A.out.below hb A.out.lt)
    replace W1 := hid (W1.out.below hb)
    replace X1 := hid (X1.out.below hb)
    replace X2 := hid (X2.out.below hb)
    replace XB := hid (XB.out.below hb XB.out.lt)
    have G1 := hid ho1
    clear hb ho1
    go_wp2_with fail
    refine (eq_strings _ _ _ _ o _ (by have := HO.out; omega) G1.out.rw W1.out.rw).mono ?_
    rintro e w7 ⟨rfl, hb⟩
    replace B := hid (B.out.trans (hb.mono B.out.size))
    replace A := hid (A.out.below hb A.out.lt)
    replace W1 := hid (W1.out.below hb)
    replace X1 := hid (X1.out.below hb)
    replace X2 := hid (X2.out.below hb)
    replace XB := hid (XB.out.below hb XB.out.lt)
    replace G1 := hid (G1.out.below hb)
    clear hb
    have hXlt := XB.out.lt
    have X0 : Hid (DV w7 (.agg #[.slice Xa S.length Xc, .slice Xb L.length Xd]) S L) := hid ⟨_, _, _, _, rfl, X1.out.rw, X2.out.rw⟩
    have HTO := hid (fun q (hq : Below w7.heap.size w7 q) => to_disk _ S L q HS.out (HV.out.below (Nat.le_refl _) (B.out.trans (hq.mono B.out.size))))
    have HEQ := hid (fun v q (hq : Below w7.heap.size w7 q) (hv : DV q v S L) => eq_disk _ v S L q (by have := HS.out.1; omega) (by have := HS.out.2.2.1; omega) (X0.out.below (Nat.le_refl _) hq) hv)
    have HQ2 := hid (fun q (hq : Below w7.heap.size w7 q) => (XB.out.below hq hXlt).cell (i := 0) rfl)
    have HQ3 := hid (fun q (hq : Below w7.heap.size w7 q) => (XB.out.below hq hXlt).cell (i := 1) rfl)
    have q0 := A.out.cell (i := 0) rfl
    have q1 := A.out.cell (i := 1) rfl
    have q2 := XB.out.cell (i := 0) rfl
    have q3 := XB.out.cell (i := 1) rfl
    go_wp2_with fail
    go_cut [45] from 41 to 45 (fun s wx => s = .bool false ∧ Below w7.heap.size w7 wx)
    case first =>
      go_region_with (first
        | (go_at_call 31; refine (HTO.out _ ?_).mono ?_; · first | exact Below.refl _ _ | exact (Below.refl _ _).drew | exact (Below.refl _ _).drew.drew
           rintro e w7x ⟨v3, rfl, ho7, hb7⟩
           have hc7 : Below w7.heap.size w7 w7x := by first | exact hb7 | exact Below.trans (Below.refl _ _).drew hb7 | exact Below.trans (Below.refl _ _).drew.drew hb7
           have hd7 := ho7.dp.dv
           have r2 := HQ2.out w7x hc7
           have r3 := HQ3.out w7x hc7)
        | (go_at_call 32; have hz := hc7; refine (HEQ.out _ _ ?_ ?_).mono ?_; · first | exact hc7 | exact hc7.drew
           · first | exact hd7 | exact hd7.below (Nat.le_refl _) (Below.refl _ _).drew
           rintro e w8x ⟨rfl, hb8⟩
           have hc8 : Below w7.heap.size w7 w8x := by first | exact hc7.trans (hb8.mono hc7.size) | exact hc7.drew.trans (hb8.mono hc7.drew.size)))
      all_goals
        go_wp2_with fail
        go_meet
        first | exact ⟨rfl, hc8⟩ | exact ⟨rfl, hc8.drew⟩
    case rest =>
      obtain ⟨rfl, hb⟩ := hcut
      clear q0 q1 q2 q3
      replace B := hid (B.out.trans (hb.mono B.out.size))
      replace A := hid (A.out.below hb A.out.lt)
      replace W1 := hid (W1.out.below hb)
      replace X1 := hid (X1.out.below hb)
      replace X2 := hid (X2.out.below hb)
      replace XB := hid (XB.out.below hb XB.out.lt)
      replace G1 := hid (G1.out.below hb)
      clear hb HTO HEQ HQ2 HQ3 X0 hXlt
      rename_i wcut0
      have q0 := XB.out.cell (i := 0) rfl
      have q1 := XB.out.cell (i := 1) rfl
      go_wp2_with fail
      refine (mark_disk _ _ _ S L 1 _ (by decide) (by decide) (by have := HS.out.1; omega) (by have := HS.out.2.2.1; omega) X1.out X2.out).mono ?_
      clear q0 q1
      rintro e w8 ⟨rfl, hd, hf, hb⟩
      replace B := hid (B.out.trans (hb.mono hbsX.out))
      replace A := hid (A.out.fr X1.out X2.out hf (by decide) (by decide))
      replace G1 := hid (G1.out.fr hf XLG.out.1 XLG.out.2)
      replace W1 := hid (W1.out.sub hb WLX.out)
      clear hd hf hb X1 X2 XB
      go_wp2_with fail
      refine (eq_strings _ _ _ _ o _ (by have := HO.out; omega) G1.out.rw W1.out.rw).mono ?_
      rintro e w9 ⟨rfl, hb⟩
      replace B := hid (B.out.trans (hb.mono B.out.size))
      replace A := hid (A.out.below hb A.out.lt)
      replace W1 := hid (W1.out.below hb)
      replace G1 := hid (G1.out.below hb)
      clear hb
      go_wp2_with fail
      refine (mark_strings _ _ o 1 _ (by decide) (by decide) (by have := HO.out; omega) G1.out).mono ?_
      rintro e w10 ⟨rfl, ho, hg, hb⟩
      replace B := hid (B.out.trans (hb.mono hbsG.out))
      replace A := hid (A.out.below hb hALG.out)
      replace W1 := hid (W1.out.sub hb WLG.out)
      have Gm := hid ho
      clear ho hg hb G1
      go_wp2_with fail
      refine (held_strings _ _ o.length 1 _ (by decide) (by decide) (by have := HO.out; omega) Gm.out.rw).mono ?_
      rintro e w11 ⟨rfl, hb⟩
      replace B := hid (B.out.trans (hb.mono B.out.size))
      replace A := hid (A.out.below hb A.out.lt)
      replace W1 := hid (W1.out.below hb)
      replace Gm := hid (Gm.out.below hb)
      clear hb
      have q0 := A.out.cell (i := 0) rfl
      have q1 := A.out.cell (i := 1) rfl
      go_wp2_with fail
      refine (to_disk _ S L _ HS.out (HV.out.below (Nat.le_refl _) B.out)).mono ?_
      clear q0 q1
      rintro e w12 ⟨v, rfl, ⟨va, vb, rfl, ho1, ho2⟩, hb⟩
      obtain ⟨Ta, Tc, rfl, Tp, _⟩ := ho1.shape
      obtain ⟨Tb, Td, rfl, Tr, _⟩ := ho2.shape
      replace B := hid (B.out.trans (hb.mono B.out.size))
      replace A := hid (A.out.below hb A.out.lt)
      replace W1 := hid (W1.out.below hb)
      replace Gm := hid (Gm.out.below hb)
      have T1 := hid ho1
      have T2 := hid ho2
      have TP := hid (show _ ∧ _ from ⟨Tp, Tr⟩)
      clear hb ho1 ho2 Tp Tr
      go_wp2_with fail
      refine (HIM.out _ _ (show DO _ _ _ S L from ⟨_, _, rfl, T1.out, T2.out⟩).dp).mono ?_
      have hALH := hid A.out.lt
      rintro e w13 ⟨v, o2, p2, rfl, ho1, hlr, hb⟩
      obtain ⟨rfl, rfl⟩ := HLR.out.same hlr
      clear hlr
      obtain ⟨Ha, Hc, rfl, _, _⟩ := ho1.shape
      replace B := hid (B.out.trans (hb.mono B.out.size))
      replace A := hid (A.out.below hb A.out.lt)
      replace W1 := hid (W1.out.below hb)
      replace Gm := hid (Gm.out.below hb)
      replace T1 := hid (T1.out.below hb)
      replace T2 := hid (T2.out.below hb)
      have H1 := hid ho1
      clear hb ho1
      clear T1 T2
      go_wp2_with fail
      refine (eq_strings _ _ _ _ o _ (by have := HO.out; omega) H1.out.rw W1.out.rw).mono ?_
      rintro e w14 ⟨rfl, hb⟩
      replace B := hid (B.out.trans (hb.mono B.out.size))
      replace A := hid (A.out.below hb A.out.lt)
      replace W1 := hid (W1.out.below hb)
      replace Gm := hid (Gm.out.below hb)
      replace H1 := hid (H1.out.below hb)
      clear hb
      go_wp2_with fail
      refine (held_strings _ _ o.length 1 _ (by decide) (by decide) (by have := HO.out; omega) Gm.out.rw).mono ?_
      rintro e w15 ⟨rfl, hb⟩
      replace B := hid (B.out.trans (hb.mono B.out.size))
      replace A := hid (A.out.below hb A.out.lt)
      replace W1 := hid (W1.out.below hb)
      replace Gm := hid (Gm.out.below hb)
      replace H1 := hid (H1.out.below hb)
      clear hb
      go_wp2_with fail
      go_ret
      exact ⟨rfl, B.out⟩
end Go.Proofs.Ytphhgfgmlfdkiaa
