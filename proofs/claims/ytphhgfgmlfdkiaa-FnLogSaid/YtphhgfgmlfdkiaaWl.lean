/- The contract of writeLate. -/
import Derived.Test.YtphhgfgmlfdkiaaWr
import Derived.Test.YtphhgfgmlfdkiaaQg
namespace Go.Proofs.Ytphhgfgmlfdkiaa
open Go.RowKit
set_option linter.unusedVariables false

/-- What is late behind writes that have room, or not. -/
def wlL (L M : List (Int × ByteArray)) : List (Int × ByteArray) := if M.length + L.length ≤ 3000 then L ++ M else L

set_option maxRecDepth 100000 in
set_option maxHeartbeats 3200000 in
theorem write_late (v : Value) (S : List ByteArray) (L M : List (Int × ByteArray)) (mo : Option Addr) (mc : Nat) (w : World) (h1 : S.length ≤ 1048576) (h2 : L.length ≤ 1048576) (h3 : M.length ≤ 1048576) (hv : DP w v S L) (hm : Rw w mo (encW M)) (hp : Pc mo M.length mc) :
    Calls Try.prog 44 #[v, .slice mo M.length mc] w fun e w' => ∃ v', e = .returned (.tuple #[v', .bool (decide (M.length + L.length ≤ 3000))]) ∧ DO w' w.heap.size v' S (wlL L M) ∧ Below w.heap.size w w' := by
  obtain ⟨a, c, a', c', e0, r1, r2, p1, p2⟩ := id hv
  subst e0
  obtain ⟨n1, n2, n3⟩ := new_two w [.slice a S.length c, .slice a' L.length c'] [.slice none 0 0, .slice none 0 0] 27 27
  have N := hid n1
  have O := hid n2
  have B := hid n3
  have V := hid (hv.below (Nat.le_refl _) n3)
  have R := hid (hm.below (Nat.le_refl _) n3)
  have HP := hid hp
  have HY := hid (show M.length + L.length ≤ 3000 → decide (M.length + L.length ≤ 3000) = true ∧ wlL L M = L ++ M from fun h => ⟨decide_eq_true h, by unfold wlL; rw [if_pos h]⟩)
  have HN := hid (show ¬ M.length + L.length ≤ 3000 → decide (M.length + L.length ≤ 3000) = false ∧ wlL L M = L from fun h => ⟨decide_eq_false h, by unfold wlL; rw [if_neg h]⟩)
  generalize decide (M.length + L.length ≤ 3000) = RB at *
  generalize wlL L M = RL at *
  clear n1 n2 n3 r1 r2 p1 p2 hv hm hp
  have q0 := N.out.cell (i := 0) rfl
  have q1 := N.out.cell (i := 1) rfl
  go_enter Try.func44, Try.ntmps44
  go_wp2_with fail
  clear q0 q1
  refine (copy_disk _ S L _ h1 h2 V.out).mono ?_
  generalize (w.alloc _).alloc _ = wa at *
  have hO := O.out.lt
  rintro e w1 ⟨v', rfl, ⟨va, vb, rfl, ho1, ho2⟩, hb⟩
  obtain ⟨xa, xc, rfl, _, _⟩ := ho1.shape
  obtain ⟨ya, yc, rfl, _, _⟩ := ho2.shape
  have G1 := hid ho1
  have G2 := hid ho2
  replace B := hid (B.out.trans (hb.mono B.out.size))
  replace N := hid (N.out.below hb N.out.lt)
  replace O := hid (O.out.below hb O.out.lt)
  replace R := hid (R.out.below (Nat.le_refl _) hb)
  have hwa1 := hb.size
  clear ho1 ho2 hb V
  have hb := (Below.refl w1.heap.size w1).alloc (Nat.le_refl _) (.cells #[.slice xa S.length xc, .slice ya L.length yc] 27)
  replace B := hid (B.out.trans (hb.mono B.out.size))
  replace N := hid (N.out.below hb N.out.lt)
  replace O := hid (O.out.below hb O.out.lt)
  replace R := hid (R.out.below (Nat.le_refl _) hb)
  replace G1 := hid (G1.out.below hb)
  replace G2 := hid (G2.out.below hb)
  have X := hid (Blk.new w1 [.slice xa S.length xc, .slice ya L.length yc] 27)
  have hX0 : wa.heap.size ≤ w1.heap.size := hwa1
  clear hb
  have q0 := N.out.cell (i := 0) rfl
  have q1 := N.out.cell (i := 1) rfl
  have z0 := X.out.cell (i := 0) rfl
  have z1 := X.out.cell (i := 1) rfl
  have k0 := O.out.cell (i := 0) rfl
  have k1 := O.out.cell (i := 1) rfl
  have l0 := O.out.free 0
  have l1 := O.out.free 1
  have m1 := X.out.free 1
  by_cases hh : M.length + L.length ≤ 3000
  · have hd : ¬ (3000 : Int) - (L.length : Int) < (M.length : Int) := by omega
    obtain ⟨e1, e2⟩ := HY.out hh
    subst e1
    subst e2
    have HL := hid (show L.length + M.length < 1000000000 by omega)
    clear hh
    go_wp2_with (at_builtin; refine wpList_appG _ rfl _ _ 25 rfl wa.heap.size 69 (.agg #[.int .i64 0, .string ByteArray.empty]) 2 24 Try.underlying25 Try.info69 rfl (by decide) (.slice ya L.length yc) L.length (encW L) rfl G2.out mo M.length mc (encW M) rfl (encW_len M) R.out HP.out (encW_one M) HL.out (by decide) ?_)
    generalize w1.alloc _ = w3 at *
    intro v4 w4 ho4 hb4 hg4
    obtain ⟨va4, vc4, rfl, _, _⟩ := ho4.shape
    have X4 := X.out.kept hg4 (G2.out.tag X.out (by decide))
    have O4 := O.out.below hb4 hO
    have H1 := G1.out.kept hg4 (G1.out.apart G2.out (by decide))
    have B4 := B.out.trans (hb4.mono (by omega))
    have c0 := X4.cell (i := 0) rfl
    have c1 := X4.cell (i := 1) rfl
    have f1 := X4.free 1
    have hne : (w.heap.size + 1) ≠ w1.heap.size := by omega
    have X5 := X4.set 1 (.slice va4 (L.length + M.length) vc4)
    have O5 := O4.other (a := ⟨w1.heap.size, 1, none⟩) hne (.slice va4 (L.length + M.length) vc4)
    have d0 := X5.cell (i := 0) rfl
    have d1 := X5.cell (i := 1) rfl
    have g0 := O5.cell (i := 0) rfl
    have g1 := O5.cell (i := 1) rfl
    have i0 := O5.free 0
    have i1 := O5.free 1
    have F := (O5.set 0 (.slice xa S.length xc)).set 1 (.slice va4 (L.length + M.length) vc4)
    have y0 := F.cell (i := 0) rfl
    have y1 := F.cell (i := 1) rfl
    have H1' := hid (H1.setCell_other (a := ⟨w1.heap.size, 1, none⟩) (fun e => H1.tag X4 (by decide) e.symm) (.slice va4 (L.length + M.length) vc4))
    have H2' := hid ((ho4.setCell_other (a := ⟨w1.heap.size, 1, none⟩) (fun e => ho4.tag X4 (by decide) e.symm) (.slice va4 (L.length + M.length) vc4)).cast2 rfl (encW_app L M).symm)
    have B5 := hid (B4.setCell (p := ⟨w1.heap.size, 1, none⟩) (by show w.heap.size ≤ w1.heap.size; omega) (.slice va4 (L.length + M.length) vc4))
    clear X4 O4 H1 ho4 hb4 hg4 B4 X5 O5 F q0 q1 z0 z1 k0 k1 l0 l1 m1
    go_wp2_with fail
    refine bodyPost_ret (v := .tuple #[.agg #[.slice xa S.length xc, .slice va4 (L.length + M.length) vc4], .bool true]) (by simp [results, Try.results44, go_sem, y0, y1]) rfl ?_
    refine ⟨_, rfl, ⟨_, _, rfl, ?_, ?_⟩, (B5.out.setCell (p := ⟨w.heap.size + 1, 0, none⟩) (Nat.le_succ _) _).setCell (p := ⟨w.heap.size + 1, 1, none⟩) (Nat.le_succ _) _⟩
    · exact ((H1'.out.setCell_below (a := ⟨w.heap.size + 1, 0, none⟩) hO _).setCell_below (a := ⟨w.heap.size + 1, 1, none⟩) hO _).mono (by omega)
    · exact (((H2'.out.setCell_below (a := ⟨w.heap.size + 1, 0, none⟩) hO _).setCell_below (a := ⟨w.heap.size + 1, 1, none⟩) hO _).mono (by omega)).cast2 (by simp) rfl
  · have hd : (3000 : Int) - (L.length : Int) < (M.length : Int) := by omega
    obtain ⟨e1, e2⟩ := HN.out hh
    subst e1
    subst e2
    clear hh
    go_wp2_with fail
    have F := (O.out.set 0 (.slice xa S.length xc)).set 1 (.slice ya RL.length yc)
    have y0 := F.cell (i := 0) rfl
    have y1 := F.cell (i := 1) rfl
    clear F
    refine bodyPost_ret (v := .tuple #[.agg #[.slice xa S.length xc, .slice ya RL.length yc], .bool false]) (by simp [results, Try.results44, go_sem, y0, y1]) rfl ?_
    refine ⟨_, rfl, ⟨_, _, rfl, ?_, ?_⟩, (B.out.setCell (p := ⟨w.heap.size + 1, 0, none⟩) (Nat.le_succ _) _).setCell (p := ⟨w.heap.size + 1, 1, none⟩) (Nat.le_succ _) _⟩
    · exact ((G1.out.setCell_below (a := ⟨w.heap.size + 1, 0, none⟩) hO _).setCell_below (a := ⟨w.heap.size + 1, 1, none⟩) hO _).mono (by omega)
    · exact ((G2.out.setCell_below (a := ⟨w.heap.size + 1, 0, none⟩) hO _).setCell_below (a := ⟨w.heap.size + 1, 1, none⟩) hO _).mono (by omega)
end Go.Proofs.Ytphhgfgmlfdkiaa
