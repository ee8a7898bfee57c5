/- Contracts of l10All and of the specification's DiskSync. -/
import Derived.Test.YtphhgfgmlfdkiabBh
import Derived.BigRegion
namespace Go.Proofs.Ytphhgfgmlfdkiab
open Go.RowKit
set_option linter.unusedVariables false

set_option maxRecDepth 100000 in
set_option maxHeartbeats 3200000 in
theorem spec_all (va vb : Value) (base : Nat) (S : List ByteArray) (L : List (Int × ByteArray)) (w : World) (hok : DOk S L) (hv1 : OwG w base 9 1 va S.length (encS S)) (hv2 : OwG w base 46 2 vb L.length (encW L)) :
    Calls Try.prog 23 #[.agg #[va, vb]] w fun e w' => e = .returned (.agg #[va, .slice none 0 0]) ∧ OwG w' base 9 1 va S.length (encS (crTo S L kpAll L.length)) ∧ w.grownBy w' va.ownBlock := by
  have HKK := hid hok
  have hm1 : L.length ≤ 3000 := hok.1.2
  have hn1 : S.length ≤ 1500 := hok.1.1
  obtain ⟨xa, xc, rfl, _, _⟩ := hv1.shape
  obtain ⟨ya, yc, rfl, _, _⟩ := hv2.shape
  obtain ⟨n1, n2, n3⟩ := new_two w [.slice xa S.length xc, .slice ya L.length yc] [.slice none 0 0, .slice none 0 0] 29 29
  have N := hid n1
  have O := hid n2
  have G1 := hid (hv1.below n3)
  have G2 := hid (hv2.below n3)
  have HG : Hid (w.grownBy ((w.alloc (.cells [.slice xa S.length xc, .slice ya L.length yc].toArray 29)).alloc (.cells [.slice none 0 0, .slice none 0 0].toArray 29)) (Value.slice xa S.length xc).ownBlock) := hid ⟨n3.os, n3.tape, n3.output, n3.size, fun k hk _ => n3.block k hk⟩
  have HLE := hid (show ∀ k, (crTo S L kpAll k).length = S.length from crTo_len S L kpAll)
  clear n1 n2 n3 hv1 hv2 hok
  generalize hM : L.length = m at *
  have HMM := hid hM
  clear hM
  go_enter Try.func23, Try.ntmps23
  go_wp2_with fail
  generalize (w.alloc _).alloc _ = w0 at *
  go_loopw [3] (fun i wr => ∃ k : Nat, k ≤ m ∧ i = .int .i64 k ∧ Hid (OwG wr base 9 1 (.slice xa S.length xc) S.length (encS (crTo S L kpAll k))) ∧ Hid (w0.grownBy wr (Value.slice xa S.length xc).ownBlock)) (fun i _ => m - (intOf i).toNat)
  case atStart => exact ⟨0, by omega, rfl, G1.out, World.grownBy.refl _ _⟩
  case round =>
    obtain ⟨k, hk, rfl, hown, hgr⟩ := hrel
    have Nr := hid (N.out.kept hgr.out (G1.out.tag N.out (by decide)))
    have Or := hid (O.out.kept hgr.out (G1.out.tag O.out (by decide)))
    have Gr := hid (G2.out.kept hgr.out (G2.out.apart G1.out (by decide)))
    have q0 := Nr.out.cell (i := 0) rfl
    have q1 := Nr.out.cell (i := 1) rfl
    by_cases hlt : k < m
    · obtain ⟨bl, off, rfl, hc1, hc2⟩ := Gr.out.rw.atW k (by rw [HMM.out]; exact hlt)
      have hlt' : (k : Int) < (m : Int) := by omega
      have HS := hid (HKK.out.2.2 k (by rw [HMM.out]; exact hlt)).1
      have HCN := hid (show crTo S L kpAll (k + 1) = (crTo S L kpAll k).set (lAt L k).1.toNat (lAt L k).2 from rfl)
      generalize lAt L k = X0 at *
      obtain ⟨x, s⟩ := X0
      simp only at hc1 hc2 HCN
      obtain ⟨j, hjx, hjn⟩ := hasS_nat2 HS.out
      simp only at hjx
      subst hjx
      rw [Int.toNat_natCast] at HCN
      obtain ⟨g, rfl⟩ := hown.out.addr (by omega)
      have hown' := hown.out
      have HLK := hid (HLE.out k)
      obtain ⟨b', off', e', hold⟩ := hown'.rw.atS j (by rw [HLK.out]; exact hjn)
      cases e'
      rw [Nat.zero_add] at hold
      have hfree := hown'.free j
      have hnew := hown'.drew1.store j (.string s)
      rw [encS_set] at hnew
      have HNEW := hid hnew
      have hj' : (j : Int) < (S.length : Int) := by omega
      have HGN : Hid (w0.grownBy (wr.drew.setCell ⟨g, j, none⟩ (.string s)) (some g)) := hid ⟨hgr.out.os, hgr.out.tape, hgr.out.output, by have := hgr.out.size; simpa [World.setCell] using this, fun q hq hne => (Below.heap_setCell _ _ _ _ (fun e => hne (by rw [e]))).trans (hgr.out.block q hq hne)⟩
      have jj : IntKind.i64.wrap (k : Int) = (k : Int) := by rw [IntKind.wrap_i64]; omega
      have jw : IntKind.i64.wrap (j : Int) = (j : Int) := by rw [IntKind.wrap_i64]; omega
      generalize sAt (crTo S L kpAll k) j = Y at *
      clear hown' hnew
      go_wp2_with fail
      go_region
      all_goals
        go_wp2_with fail
        go_roundw
        case rel => exact ⟨k + 1, by omega, by go_num, by rw [HCN.out]; exact HNEW.out, HGN.out⟩
        case measure => simp [intOf]; omega
    · obtain rfl : k = m := by omega
      have k0 := Or.out.cell (i := 0) rfl
      have k1 := Or.out.cell (i := 1) rfl
      have l0 := Or.out.free 0
      have l1 := Or.out.free 1
      have F := (Or.out.set 0 (.slice xa S.length xc)).set 1 (.slice none 0 0)
      have y0 := F.cell (i := 0) rfl
      have y1 := F.cell (i := 1) rfl
      have hlo := Or.out.lt
      have HO2 := hid ((hown.out.setCell_other (a := ⟨w.heap.size + 1, 0, none⟩) (fun e => hown.out.tag Or.out (by decide) e.symm) (.slice xa S.length xc)).setCell_other (a := ⟨w.heap.size + 1, 1, none⟩) (fun e => hown.out.tag Or.out (by decide) e.symm) (.slice none 0 0))
      clear F
      go_wp2_with fail
      refine bodyPost_ret (v := .agg #[.slice xa S.length xc, .slice none 0 0]) (by simp [results, Try.results23, go_sem, y0, y1]) rfl ?_
      refine ⟨rfl, HO2.out, ?_⟩
      have hg := HG.out.trans hgr.out
      exact ⟨hg.os, hg.tape, hg.output, by have := hg.size; simpa [World.setCell] using this, fun q hq hne => ((Below.heap_setCell _ _ _ _ (by show q ≠ w.heap.size + 1; omega)).trans (Below.heap_setCell _ _ _ _ (by show q ≠ w.heap.size + 1; omega))).trans (hg.block q hq hne)⟩

end Go.Proofs.Ytphhgfgmlfdkiab
