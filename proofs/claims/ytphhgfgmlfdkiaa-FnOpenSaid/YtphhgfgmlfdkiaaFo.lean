/- The law FnOpen. -/
import Derived.Test.YtphhgfgmlfdkiaaDlo
import Derived.Test.YtphhgfgmlfdkiaaSop
import Derived.Test.YtphhgfgmlfdkiaaOfr
import Derived.Test.YtphhgfgmlfdkiaaBg
import Derived.Test.YtphhgfgmlfdkiaaLb
namespace Go.Proofs.Ytphhgfgmlfdkiaa
open Go.RowKit
set_option linter.unusedVariables false

theorem OpR.len {S : List ByteArray} {L : List (Int × ByteArray)} {S' : List ByteArray} {L' : List (Int × ByteArray)} {o : List ByteArray} {p : Nat} (h : OpR S L S' L' o p) : S'.length = S.length ∧ L'.length ≤ L.length ∧ o.length ≤ 1500 ∧ p ≤ S.length := by
  rcases h with ⟨_, rfl, rfl, rfl, rfl⟩ | ⟨h0, o0, p0, hl, hh⟩
  · exact ⟨rfl, Nat.le_refl _, by simp, by omega⟩
  · have hd := (okB_iff h0).1.1
    have hb := Log.bound (h := hl) (by rw [eff_len]; exact hd)
    rw [eff_len] at hb
    rcases hh with ⟨_, rfl, rfl, rfl, rfl⟩ | ⟨_, rfl, rfl, rfl, rfl⟩
    · exact ⟨crTo_len _ _ _ _, by simp, hb.1, hb.2⟩
    · exact ⟨rfl, Nat.le_refl _, by simp, by omega⟩
theorem empty_size {X : ByteArray} (h : X.size = 0) : X.toList.isEmpty = true := by
  have h1 := toList_loop X X.size 0 [] (by omega)
  have h2 : X.toList = X.data.toList := by
    unfold ByteArray.toList
    rw [h1]
    simp
  rw [h2, size_eq h]
  rfl

set_option maxRecDepth 100000 in
set_option maxHeartbeats 3200000 in
theorem law_open (ao : Option Addr) (n cap : Nat) (zs : List Int) (w : World) (hn : n ≤ 1048576) (hcode : Code w ao n zs) :
    Calls Try.prog 5 #[.slice ao n cap] w fun e w' => e = .returned (.bool true) ∧ Below w.heap.size w w' := by
  have HC := hid hcode
  have hbig : decide ((1048576 : Int) < (n : Int)) = false := decide_eq_false (by omega)
  clear hcode
  go_enter Try.func5, Try.ntmps5
  go_wp2_with (go_at_call 9; refine (big_any ao n cap w).mono ?_; rintro e w1 ⟨rfl, rfl⟩; rw [hbig])
  refine (draw_logOpen ao n cap zs w HC.out).mono ?_
  rintro e w1 ⟨v, rfl, S, L, hlen, hdo, hb1⟩
  obtain ⟨va, vb, rfl, g1, g2⟩ := id hdo
  obtain ⟨xa, xc, rfl, p1, _⟩ := g1.shape
  obtain ⟨ya, yc, rfl, p2, _⟩ := g2.shape
  have ba := (Below.refl w1.heap.size w1).alloc (Nat.le_refl _) (.cells #[.slice xa S.length xc, .slice ya L.length yc] 27)
  have N := hid (Blk.new w1 [.slice xa S.length xc, .slice ya L.length yc] 27)
  have D := hid (hdo.dp.below (Nat.le_refl _) ba)
  have B := hid (hb1.trans (ba.mono hb1.size))
  have n0 := N.out.cell (i := 0) rfl
  have n1 := N.out.cell (i := 1) rfl
  clear hdo hb1 g1 g2 ba p1 p2 HC hbig
  go_wp2_with fail
  generalize hnd : w1.heap.size = nd at *
  generalize w1.alloc (.cells #[.slice xa S.length xc, .slice ya L.length yc] 27) = wa at *
  clear hnd
  refine (impl_logRead _ S L wa D.out).mono ?_
  rintro e w2 ⟨v2, o, p, rfl, g1, hlr, hb⟩
  obtain ⟨oa, oc, rfl, _, _⟩ := g1.shape
  replace B := hid (B.out.trans (hb.mono B.out.size))
  replace N := hid (N.out.below hb N.out.lt)
  replace D := hid (D.out.below (Nat.le_refl _) hb)
  have T := hid g1.rw
  have HLR := hid hlr
  clear n0 n1 hb hlr g1
  have n0 := N.out.cell (i := 0) rfl
  have n1 := N.out.cell (i := 1) rfl
  go_wp2_with fail
  refine (impl_logOpen _ S L w2 (by omega) (by omega) D.out).mono ?_
  rintro e w3 ⟨v3, u3, S3, L3, o3, p3, rfl, hdo, hu, _, hop, hb⟩
  obtain ⟨va3, vb3, rfl, g1, g2⟩ := id hdo
  obtain ⟨xa3, xc3, rfl, _, _⟩ := g1.shape
  obtain ⟨ya3, yc3, rfl, _, _⟩ := g2.shape
  obtain ⟨ua3, uc3, rfl, _, _⟩ := hu.shape
  have ba := (Below.refl w3.heap.size w3).alloc (Nat.le_refl _) (.cells #[.slice xa3 S3.length xc3, .slice ya3 L3.length yc3] 27)
  have hb' := hb.trans (ba.mono hb.size)
  replace B := hid (B.out.trans (hb'.mono B.out.size))
  replace N := hid (N.out.below hb' N.out.lt)
  replace D := hid (D.out.below (Nat.le_refl _) hb')
  replace T := hid (T.out.below (Nat.le_refl _) hb')
  have E := hid (Blk.new w3 [.slice xa3 S3.length xc3, .slice ya3 L3.length yc3] 27)
  have DE := hid (hdo.dp.below (Nat.le_refl _) ba)
  have U := hid (hu.rw.below (Nat.le_refl _) ba)
  have HOP := hid hop
  clear n0 n1 hb hb' ba hdo hu hop g1 g2
  have n0 := N.out.cell (i := 0) rfl
  have n1 := N.out.cell (i := 1) rfl
  go_wp2_with fail
  generalize w3.alloc (.cells #[.slice xa3 S3.length xc3, .slice ya3 L3.length yc3] 27) = wb at *
  generalize w3.heap.size = ne at *
  refine (spec_logOpen _ S L wb (by omega) (by omega) D.out).mono ?_
  rintro e w4 ⟨v4, u4, S4, L4, o4, p4, rfl, hdo, hu, _, hop4, hb⟩
  obtain ⟨q1, q2, q3, q4⟩ := hop4.same HOP.out
  subst q1 q2 q3 q4
  obtain ⟨va4, vb4, rfl, g1, g2⟩ := id hdo
  obtain ⟨xa4, xc4, rfl, _, _⟩ := g1.shape
  obtain ⟨ya4, yc4, rfl, _, _⟩ := g2.shape
  obtain ⟨ua4, uc4, rfl, _, _⟩ := hu.shape
  have ba := (Below.refl w4.heap.size w4).alloc (Nat.le_refl _) (.cells #[.slice xa4 S4.length xc4, .slice ya4 L4.length yc4] 27)
  have hb' := hb.trans (ba.mono hb.size)
  replace B := hid (B.out.trans (hb'.mono B.out.size))
  replace N := hid (N.out.below hb' N.out.lt)
  replace D := hid (D.out.below (Nat.le_refl _) hb')
  replace T := hid (T.out.below (Nat.le_refl _) hb')
  replace E := hid (E.out.below hb' E.out.lt)
  replace DE := hid (DE.out.below (Nat.le_refl _) hb')
  replace U := hid (U.out.below (Nat.le_refl _) hb')
  have F := hid (Blk.new w4 [.slice xa4 S4.length xc4, .slice ya4 L4.length yc4] 27)
  have G1 := hid (g1.rw.below (Nat.le_refl _) ba)
  have U4 := hid (hu.rw.below (Nat.le_refl _) ba)
  clear n0 n1 hb hb' ba hdo hu hop4 g1 g2
  go_wp2_with fail
  generalize w4.alloc (.cells #[.slice xa4 S4.length xc4, .slice ya4 L4.length yc4] 27) = wc at *
  generalize w4.heap.size = nf at *
  have hol := HOP.out.len.2.2.1
  have hsl : S4.length ≤ 1000 := by have := HOP.out.len; omega
  refine (same_texts ua3 ua4 uc3 uc4 o4 wc (by omega) U.out U4.out).mono ?_
  rintro e w5 ⟨rfl, hb⟩
  replace B := hid (B.out.trans (hb.mono B.out.size))
  replace N := hid (N.out.below hb N.out.lt)
  replace D := hid (D.out.below (Nat.le_refl _) hb)
  replace T := hid (T.out.below (Nat.le_refl _) hb)
  replace E := hid (E.out.below hb E.out.lt)
  replace DE := hid (DE.out.below (Nat.le_refl _) hb)
  replace U := hid (U.out.below (Nat.le_refl _) hb)
  replace F := hid (F.out.below hb F.out.lt)
  replace G1 := hid (G1.out.below (Nat.le_refl _) hb)
  clear hb U4
  have e0 := E.out.cell (i := 0) rfl
  have f0 := F.out.cell (i := 0) rfl
  have HSE := hid (show Rw w5 xa3 (encS S4) from by
    obtain ⟨a, c, a', c', e, h, _⟩ := DE.out
    cases e
    exact h)
  go_wp2_with fail
  refine (same_texts xa3 xa4 xc3 xc4 S4 w5 (by omega) HSE.out G1.out).mono ?_
  rintro e w6 ⟨rfl, hb⟩
  replace B := hid (B.out.trans (hb.mono B.out.size))
  replace N := hid (N.out.below hb N.out.lt)
  replace D := hid (D.out.below (Nat.le_refl _) hb)
  replace T := hid (T.out.below (Nat.le_refl _) hb)
  replace E := hid (E.out.below hb E.out.lt)
  replace DE := hid (DE.out.below (Nat.le_refl _) hb)
  replace U := hid (U.out.below (Nat.le_refl _) hb)
  replace HSE := hid (HSE.out.below (Nat.le_refl _) hb)
  clear hb e0 f0 G1 F
  have n0 := N.out.cell (i := 0) rfl
  have n1 := N.out.cell (i := 1) rfl
  go_wp2_with fail
  refine (spec_ok _ S L w6 D.out.dv).mono ?_
  rintro e w7 ⟨rfl, hb⟩
  replace B := hid (B.out.trans (hb.mono B.out.size))
  replace N := hid (N.out.below hb N.out.lt)
  replace D := hid (D.out.below (Nat.le_refl _) hb)
  replace T := hid (T.out.below (Nat.le_refl _) hb)
  replace E := hid (E.out.below hb E.out.lt)
  replace DE := hid (DE.out.below (Nat.le_refl _) hb)
  replace U := hid (U.out.below (Nat.le_refl _) hb)
  replace HSE := hid (HSE.out.below (Nat.le_refl _) hb)
  clear hb n0 n1
  cases hok : okB S L
  · have hL : o4 = [] ∧ p4 = 0 ∧ L4 = L ∧ S4 = S := by
      rcases HOP.out with ⟨_, h1, h2, h3, h4⟩ | ⟨h, _⟩
      · exact ⟨h3, h4, h2, h1⟩
      · rw [hok] at h; cases h
    obtain ⟨rfl, rfl, rfl, rfl⟩ := hL
    have n0 := N.out.cell (i := 0) rfl
    have n1 := N.out.cell (i := 1) rfl
    have e1 := E.out.cell (i := 1) rfl
    go_wp2_with fail
    refine (impl_logFree _ _ _ w7 D.out).mono ?_
    rintro e w8 ⟨r, rfl, hfr, hb⟩
    obtain rfl : r = -1 := by
      rcases hfr with ⟨h, _⟩ | ⟨_, h⟩
      · rw [hok] at h; cases h
      · exact h
    have HB8 := hid (B.out.trans (hb.mono B.out.size))
    clear hb
    go_wp2_with fail
    go_ret
    exact ⟨rfl, HB8.out⟩
  · obtain ⟨hlog, rfl, hl4, hem, hopa⟩ := open_again hok (by omega) HOP.out
    obtain ⟨rfl, rfl⟩ : o4 = o ∧ p4 = p := by
      rcases HLR.out with ⟨_, h⟩ | ⟨h, _⟩
      · exact hlog.same h
      · rw [hok] at h; cases h
    have HOA := hid hopa
    have HEM := hid hem
    clear hopa hem hlog
    have e0 := E.out.cell (i := 0) rfl
    have e1 := E.out.cell (i := 1) rfl
    have HL4 := hid hl4
    clear hl4
    have hp4 : p4 ≤ S4.length := by have := HOA.out.len; omega
    go_wp2_with fail
    go_loopw [12] (fun i wr => ∃ k : Nat, k ≤ S4.length ∧ p4 ≤ k ∧ i = .int .i64 k ∧ wr = w7) (fun i _ => S4.length - (intOf i).toNat)
    case atStart => exact ⟨p4, hp4, Nat.le_refl _, rfl, rfl⟩
    case round =>
      obtain ⟨k, hk, hpk, rfl, rfl⟩ := hrel
      by_cases hlt : k < S4.length
      · have hlt' : (k : Int) < (S4.length : Int) := by omega
        obtain ⟨xb, xo, rfl, hcell⟩ := HSE.out.atS k hlt
        have hz := empty_size (HEM.out k hpk hlt)
        go_wp2_with fail
        go_roundw
        case rel => exact ⟨k + 1, by omega, by omega, by go_num, by first | rfl | trivial⟩
        case measure => simp [intOf]; omega
      · obtain rfl : k = S4.length := by omega
        go_wp2_with fail
        refine (impl_logOpen _ S4 [] wr (by omega) (by simp) DE.out).mono ?_
        rintro e w8 ⟨v8, u8, S8, L8, o8, p8, rfl, hdo, hu, _, hop8, hb0⟩
        obtain ⟨q1, q2, q3, q4⟩ := hop8.same HOA.out
        subst q1 q2 q3 q4
        obtain ⟨va8, vb8, rfl, g1, g2⟩ := id hdo
        obtain ⟨xa8, xc8, rfl, _, _⟩ := g1.shape
        obtain ⟨ya8, yc8, rfl, _, _⟩ := g2.shape
        obtain ⟨ua8, uc8, rfl, _, _⟩ := hu.shape
        have ba := (Below.refl w8.heap.size w8).alloc (Nat.le_refl _) (.cells #[.slice xa8 S8.length xc8, .slice ya8 (0 : Nat) yc8] 27)
        have hb := hb0.trans (ba.mono hb0.size)
        replace B := hid (B.out.trans (hb.mono B.out.size))
        replace T := hid (T.out.below (Nat.le_refl _) hb)
        replace E := hid (E.out.below hb E.out.lt)
        replace U := hid (U.out.below (Nat.le_refl _) hb)
        replace HSE := hid (HSE.out.below (Nat.le_refl _) hb)
        have F := hid (Blk.new w8 [.slice xa8 S8.length xc8, .slice ya8 (0 : Nat) yc8] 27)
        have G1 := hid (g1.rw.below (Nat.le_refl _) ba)
        clear hb hb0 ba hdo hu hop8 g1 g2 e0 e1 N D DE
        have e0 := E.out.cell (i := 0) rfl
        have e1 := E.out.cell (i := 1) rfl
        have f0 := F.out.cell (i := 0) rfl
        go_wp2_with fail
        generalize w8.alloc (.cells #[.slice xa8 S8.length xc8, .slice ya8 (0 : Nat) yc8] 27) = wd at *
        generalize w8.heap.size = ng at *
        refine (same_texts ua3 oa uc3 oc o8 wd (by omega) U.out T.out).mono ?_
        rintro e w9 ⟨rfl, hb⟩
        replace B := hid (B.out.trans (hb.mono B.out.size))
        replace E := hid (E.out.below hb E.out.lt)
        replace F := hid (F.out.below hb F.out.lt)
        replace HSE := hid (HSE.out.below (Nat.le_refl _) hb)
        replace G1 := hid (G1.out.below (Nat.le_refl _) hb)
        clear hb e0 e1 f0 T U
        have e0 := E.out.cell (i := 0) rfl
        have e1 := E.out.cell (i := 1) rfl
        have f0 := F.out.cell (i := 0) rfl
        go_wp2_with fail
        refine (same_texts xa8 xa3 xc8 xc3 S8 w9 (by omega) G1.out HSE.out).mono ?_
        rintro e w10 ⟨rfl, hb⟩
        replace B := hid (B.out.trans (hb.mono B.out.size))
        clear hb e0 e1 f0
        go_wp2_with fail
        go_ret
        exact ⟨rfl, B.out⟩

set_option maxRecDepth 100000 in
set_option maxHeartbeats 3200000 in
theorem law_fnOpen (ao : Option Addr) (n cap : Nat) (zs : List Int) (w : World) (hv : View .u8 w ao n zs) (hz : ∀ x ∈ zs, (Lit.int .u8 x).wf = true) :
    Calls Try.prog 5 #[.slice ao n cap] w fun e w' => e = .returned (.bool true) ∧ Below w.heap.size w w' := by
  by_cases hbig : (1048576 : Int) < (n : Int)
  · have hd : decide ((1048576 : Int) < (n : Int)) = true := decide_eq_true hbig
    clear hv hz
    go_enter Try.func5, Try.ntmps5
    go_wp2_with (go_at_call 9; refine (big_any ao n cap w).mono ?_; rintro e w1 ⟨rfl, rfl⟩; rw [hd])
    go_ret
    exact ⟨rfl, (Below.refl _ _)⟩
  · exact law_open ao n cap zs w (by omega) ⟨by omega, hv, hz⟩
end Go.Proofs.Ytphhgfgmlfdkiaa
