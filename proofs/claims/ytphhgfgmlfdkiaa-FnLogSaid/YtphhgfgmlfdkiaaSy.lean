/- Contracts of l10All and of the specification's DiskSync. -/
import Derived.Test.YtphhgfgmlfdkiaaBh
import Derived.BigRegion
namespace Go.Proofs.Ytphhgfgmlfdkiaa
open Go.RowKit
set_option linter.unusedVariables false

set_option maxRecDepth 100000 in
set_option maxHeartbeats 3200000 in
theorem spec_all (va vb : Value) (base : Nat) (S : List ByteArray) (L : List (Int × ByteArray)) (w : World) (hok : DOk S L) (hv1 : OwG w base 9 1 va S.length (encS S)) (hv2 : OwG w base 69 2 vb L.length (encW L)) :
    Calls Try.prog 60 #[.agg #[va, vb]] w fun e w' => e = .returned (.agg #[va, .slice none 0 0]) ∧ OwG w' base 9 1 va S.length (encS (crTo S L kpAll L.length)) ∧ w.grownBy w' va.ownBlock := by
  have HKK := hid hok
  have hm1 : L.length ≤ 3000 := hok.1.2
  have hn1 : S.length ≤ 1500 := hok.1.1
  obtain ⟨xa, xc, rfl, _, _⟩ := hv1.shape
  obtain ⟨ya, yc, rfl, _, _⟩ := hv2.shape
  obtain ⟨n1, n2, n3⟩ := new_two w [.slice xa S.length xc, .slice ya L.length yc] [.slice none 0 0, .slice none 0 0] 27 27
  have N := hid n1
  have O := hid n2
  have G1 := hid (hv1.below n3)
  have G2 := hid (hv2.below n3)
  have HG : Hid (w.grownBy ((w.alloc (.cells [.slice xa S.length xc, .slice ya L.length yc].toArray 27)).alloc (.cells [.slice none 0 0, .slice none 0 0].toArray 27)) (Value.slice xa S.length xc).ownBlock) := hid ⟨n3.os, n3.tape, n3.output, n3.size, fun k hk _ => n3.block k hk⟩
  have HLE := hid (show ∀ k, (crTo S L kpAll k).length = S.length from crTo_len S L kpAll)
  clear n1 n2 n3 hv1 hv2 hok
  generalize hM : L.length = m at *
  have HMM := hid hM
  clear hM
  go_enter Try.func60, Try.ntmps60
  go_wp2_with fail
  generalize (w.alloc _).alloc _ = w0 at *
  go_loopw [3] (fun i wr => ∃ k : Nat, k ≤ m ∧ i = .int .i64 k ∧ Hid (OwG wr base 9 1 (.slice xa S.length xc) S.length (encS (crTo S L kpAll k))) ∧ Hid (w0.grownBy wr (Value.slice xa S.length xc).ownBlock)) (fun i _ => m - (intOf i).toNat)
  case atStart => exact ⟨0, by omega, rfl, G1.out, World.grownBy.refl _ _⟩
  case round =>
    obtain ⟨k, hk, rfl, hown, hgr⟩ := hrel
    have Nr := hid (N.out.kept hgr.out (G1.out.tag N.out (by decide)))
    have Or := hid (O.out.kept hgr.out (G1.out.tag O.out (by decide)))
    have Gr := hid (G2.out.kept hgr.out (G2.out.apart G1.out (by decide)))
    have q0 := Nr.out.cell (i := 0) rfl
    have q1 := Nr.out.cell (i := 1) rfl
    by_cases hlt : k < m
    · obtain ⟨bl, off, rfl, hc1, hc2⟩ := Gr.out.rw.atW k (by rw [HMM.out]; exact hlt)
      have hlt' : (k : Int) < (m : Int) := by omega
      have HS := hid (HKK.out.2.2 k (by rw [HMM.out]; exact hlt)).1
      have HCN := hid (show crTo S L kpAll (k + 1) = (crTo S L kpAll k).set (lAt L k).1.toNat (lAt L k).2 from rfl)
      generalize lAt L k = X0 at *
      obtain ⟨x, s⟩ := X0
      simp only at hc1 hc2 HCN
      obtain ⟨j, hjx, hjn⟩ := hasS_nat2 HS.out
      simp only at hjx
      subst hjx
      rw [Int.toNat_natCast] at HCN
      obtain ⟨g, rfl⟩ := hown.out.addr (by omega)
      have hown' := hown.out
      have HLK := hid (HLE.out k)
      obtain ⟨b', off', e', hold⟩ := hown'.rw.atS j (by rw [HLK.out]; exact hjn)
      cases e'
      rw [Nat.zero_add] at hold
      have hfree := hown'.free j
      have hnew := hown'.drew1.store j (.string s)
      rw [encS_set] at hnew
      have HNEW := hid hnew
      have hj' : (j : Int) < (S.length : Int) := by omega
      have HGN : Hid (w0.grownBy (wr.drew.setCell ⟨g, j, none⟩ (.string s)) (some g)) := hid ⟨hgr.out.os, hgr.out.tape, hgr.out.output, by have := hgr.out.size; simpa [World.setCell] using this, fun q hq hne => (Below.heap_setCell _ _ _ _ (fun e => hne (by rw [e]))).trans (hgr.out.block q hq hne)⟩
      have jj : IntKind.i64.wrap (k : Int) = (k : Int) := by rw [IntKind.wrap_i64]; omega
      have jw : IntKind.i64.wrap (j : Int) = (j : Int) := by rw [IntKind.wrap_i64]; omega
      generalize sAt (crTo S L kpAll k) j = Y at *
      clear hown' hnew
      go_wp2_with fail
      go_region
      all_goals
        go_wp2_with fail
        go_roundw
        case rel => exact ⟨k + 1, by omega, by go_num, by rw [HCN.out]; exact HNEW.out, HGN.out⟩
        case measure => simp [intOf]; omega
    · obtain rfl : k = m := by omega
      have k0 := Or.out.cell (i := 0) rfl
      have k1 := Or.out.cell (i := 1) rfl
      have l0 := Or.out.free 0
      have l1 := Or.out.free 1
      have F := (Or.out.set 0 (.slice xa S.length xc)).set 1 (.slice none 0 0)
      have y0 := F.cell (i := 0) rfl
      have y1 := F.cell (i := 1) rfl
      have hlo := Or.out.lt
      have HO2 := hid ((hown.out.setCell_other (a := ⟨w.heap.size + 1, 0, none⟩) (fun e => hown.out.tag Or.out (by decide) e.symm) (.slice xa S.length xc)).setCell_other (a := ⟨w.heap.size + 1, 1, none⟩) (fun e => hown.out.tag Or.out (by decide) e.symm) (.slice none 0 0))
      clear F
      go_wp2_with fail
      refine bodyPost_ret (v := .agg #[.slice xa S.length xc, .slice none 0 0]) (by simp [results, Try.results60, go_sem, y0, y1]) rfl ?_
      refine ⟨rfl, HO2.out, ?_⟩
      have hg := HG.out.trans hgr.out
      exact ⟨hg.os, hg.tape, hg.output, by have := hg.size; simpa [World.setCell] using this, fun q hq hne => ((Below.heap_setCell _ _ _ _ (by show q ≠ w.heap.size + 1; omega)).trans (Below.heap_setCell _ _ _ _ (by show q ≠ w.heap.size + 1; omega))).trans (hg.block q hq hne)⟩

set_option maxRecDepth 100000 in
set_option maxHeartbeats 3200000 in
theorem spec_sync (v : Value) (S : List ByteArray) (L : List (Int × ByteArray)) (w : World) (h1 : S.length ≤ 1048576) (h2 : L.length ≤ 1048576) (hv : DP w v S L) :
    Calls Try.prog 84 #[v] w fun e w' => ∃ v', e = .returned v' ∧ DO w' w.heap.size v' (bhS S L kpAll) (bhL S L) ∧ Below w.heap.size w w' := by
  obtain ⟨a, c, a', c', e0, r1, r2, p1, p2⟩ := id hv
  subst e0
  obtain ⟨n1, n2, n3⟩ := new_two w [.slice a S.length c, .slice a' L.length c'] [.slice none 0 0, .slice none 0 0] 27 27
  have N := hid n1
  have O := hid n2
  have B := hid n3
  have V := hid (hv.below (Nat.le_refl _) n3)
  clear n1 n2 n3 r1 r2 p1 p2 hv
  have HYS := hid (fun h => bhS_yes (S := S) (L := L) (kp := kpAll) h)
  have HNS := hid (fun h => bhS_no (S := S) (L := L) (kp := kpAll) h)
  have HYL := hid (fun h => bhL_yes (S := S) (L := L) h)
  have HNL := hid (fun h => bhL_no (S := S) (L := L) h)
  generalize bhS S L kpAll = RS at *
  generalize bhL S L = RL at *
  have q0 := N.out.cell (i := 0) rfl
  have q1 := N.out.cell (i := 1) rfl
  go_enter Try.func84, Try.ntmps84
  go_wp2_with fail
  clear q0 q1
  refine (spec_copy _ S L _ h1 h2 V.out).mono ?_
  generalize (w.alloc _).alloc _ = wa at *
  have hO := O.out.lt
  have hN := N.out.lt
  rintro e w1 ⟨v', rfl, ⟨va, vb, rfl, ho1, ho2⟩, hb⟩
  obtain ⟨xa, xc, rfl, _, _⟩ := ho1.shape
  obtain ⟨ya, yc, rfl, _, _⟩ := ho2.shape
  have hwa1 := hb.size
  have KN := N.out.below hb N.out.lt
  have q0 := KN.cell (i := 0) rfl
  have q1 := KN.cell (i := 1) rfl
  have f0 := KN.free 0
  have f1 := KN.free 1
  have KN1 := KN.set 0 (.slice xa S.length xc)
  have q3 := KN1.cell (i := 1) rfl
  have f3 := KN1.free 1
  have KN2 := KN1.set 1 (.slice ya L.length yc)
  have q4 := KN2.cell (i := 0) rfl
  have q5 := KN2.cell (i := 1) rfl
  replace B := hid (((B.out.trans (hb.mono B.out.size)).setCell (p := ⟨w.heap.size, 0, none⟩) (Nat.le_refl _) (.slice xa S.length xc)).setCell (p := ⟨w.heap.size, 1, none⟩) (Nat.le_refl _) (.slice ya L.length yc))
  replace O := hid (((O.out.below hb O.out.lt).other (a := ⟨w.heap.size, 0, none⟩) (by show w.heap.size + 1 ≠ w.heap.size; omega) (.slice xa S.length xc)).other (a := ⟨w.heap.size, 1, none⟩) (by show w.heap.size + 1 ≠ w.heap.size; omega) (.slice ya L.length yc))
  have G1 := hid ((ho1.setCell_below (a := ⟨w.heap.size, 0, none⟩) hN (.slice xa S.length xc)).setCell_below (a := ⟨w.heap.size, 1, none⟩) hN (.slice ya L.length yc))
  have G2 := hid ((ho2.setCell_below (a := ⟨w.heap.size, 0, none⟩) hN (.slice xa S.length xc)).setCell_below (a := ⟨w.heap.size, 1, none⟩) hN (.slice ya L.length yc))
  replace N := hid KN2
  have HOK := hid (spec_ok (.agg #[.slice xa S.length xc, .slice ya L.length yc]) S L ((w1.setCell ⟨w.heap.size, 0, none⟩ (.slice xa S.length xc)).setCell ⟨w.heap.size, 1, none⟩ (.slice ya L.length yc)) ⟨_, _, _, _, rfl, G1.out.rw, G2.out.rw⟩)
  clear ho1 ho2 hb V KN KN1 KN2
  go_wp2_with fail
  clear q0 q1 q3 q4 q5 f0 f1 f3
  refine HOK.out.mono ?_
  clear HOK
  generalize (w1.setCell _ _).setCell _ _ = wb at *
  rintro e w2 ⟨rfl, hb⟩
  replace B := hid (B.out.trans (hb.mono B.out.size))
  replace N := hid (N.out.below hb N.out.lt)
  replace O := hid (O.out.below hb O.out.lt)
  replace G1 := hid (G1.out.below hb)
  replace G2 := hid (G2.out.below hb)
  clear hb
  have z0 := N.out.cell (i := 0) rfl
  have z1 := N.out.cell (i := 1) rfl
  cases hO1 : okB S L with
  | false =>
    have e1 := HNS.out hO1
    have e2 := HNL.out hO1
    clear HYS HNS HYL HNL
    subst e1
    subst e2
    have k0 := O.out.cell (i := 0) rfl
    have k1 := O.out.cell (i := 1) rfl
    have l0 := O.out.free 0
    have l1 := O.out.free 1
    have F := (O.out.set 0 (.slice xa RS.length xc)).set 1 (.slice ya RL.length yc)
    have y0 := F.cell (i := 0) rfl
    have y1 := F.cell (i := 1) rfl
    clear F
    go_wp2_with fail
    refine bodyPost_ret (v := .agg #[.slice xa RS.length xc, .slice ya RL.length yc]) (by simp [results, Try.results84, go_sem, y0, y1]) rfl ?_
    refine ⟨_, rfl, ⟨_, _, rfl, ?_, ?_⟩, (B.out.setCell (p := ⟨w.heap.size + 1, 0, none⟩) (Nat.le_succ _) _).setCell (p := ⟨w.heap.size + 1, 1, none⟩) (Nat.le_succ _) _⟩
    · exact ((G1.out.setCell_below (a := ⟨w.heap.size + 1, 0, none⟩) hO _).setCell_below (a := ⟨w.heap.size + 1, 1, none⟩) hO _).mono (by omega)
    · exact ((G2.out.setCell_below (a := ⟨w.heap.size + 1, 0, none⟩) hO _).setCell_below (a := ⟨w.heap.size + 1, 1, none⟩) hO _).mono (by omega)
  | true =>
    have e1 := HYS.out hO1
    have e2 := HYL.out hO1
    have HKK := hid (okB_iff hO1)
    clear HYS HNS HYL HNL
    have HA := hid (spec_all _ _ wa.heap.size S L w2 HKK.out G1.out G2.out)
    have HLK := hid (crTo_len S L kpAll L.length)
    rw [← e1] at HA HLK
    have hge : ∀ g, (Value.slice xa S.length xc).ownBlock = some g → wa.heap.size ≤ g := fun g e => (G1.out.2.lt g e).1
    have HGE := hid hge
    clear e1 hge
    subst e2
    go_wp2_with fail
    refine HA.out.mono ?_
    rintro e w3 ⟨rfl, ho3, hg3⟩
    have hb3 : Below wa.heap.size w2 w3 := ⟨hg3.os, hg3.tape, hg3.output, hg3.size, fun q hq => hg3.block q (Nat.lt_of_lt_of_le hq G1.out.1) (fun e => by have := HGE.out q e.symm; omega)⟩
    replace O := hid (O.out.below hb3 hO)
    replace B := hid (B.out.trans (hb3.mono (by omega)))
    have HO3 := hid ho3
    clear ho3 hg3 hb3 z0 z1
    have k0 := O.out.cell (i := 0) rfl
    have k1 := O.out.cell (i := 1) rfl
    have l0 := O.out.free 0
    have l1 := O.out.free 1
    have F := (O.out.set 0 (.slice xa S.length xc)).set 1 (.slice none 0 0)
    have y0 := F.cell (i := 0) rfl
    have y1 := F.cell (i := 1) rfl
    clear F
    go_wp2_with fail
    refine bodyPost_ret (v := .agg #[.slice xa S.length xc, .slice none 0 0]) (by simp [results, Try.results84, go_sem, y0, y1]) rfl ?_
    refine ⟨_, rfl, ⟨_, _, rfl, ?_, ?_⟩, (B.out.setCell (p := ⟨w.heap.size + 1, 0, none⟩) (Nat.le_succ _) _).setCell (p := ⟨w.heap.size + 1, 1, none⟩) (Nat.le_succ _) _⟩
    · exact (((HO3.out.setCell_below (a := ⟨w.heap.size + 1, 0, none⟩) hO _).setCell_below (a := ⟨w.heap.size + 1, 1, none⟩) hO _).mono (by omega)).cast HLK.out.symm rfl
    · exact OwG.nil _ _ _ _ (by have := B.out.size; simpa [World.setCell] using this)
end Go.Proofs.Ytphhgfgmlfdkiaa
