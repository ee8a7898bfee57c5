/- DrawDiskWrite. -/
import Derived.Test.YtlphojlccecnhaaDk
namespace Go.Proofs.Ytlphojlccecnhaa
open Go.RowKit
set_option linter.unusedVariables false

set_option maxRecDepth 100000 in
set_option maxHeartbeats 3200000 in
theorem draw_write (ao : Option Addr) (n cap : Nat) (zs : List Int) (w : World) (hcode : Code w ao n zs) :
    Calls Try.prog 10 #[.slice ao n cap] w fun e w' => ∃ v i s, e = .returned (.tuple #[v, .int .i64 i, .string s]) ∧ ∃ (S : List ByteArray) (L : List (Int × ByteArray)), S.length ≤ 8 ∧ 1 ≤ S.length ∧ L.length ≤ 20 ∧ (-1 ≤ i ∧ i ≤ 9) ∧ s.size ≤ 1000 ∧ DO w' w.heap.size v S L ∧ Below w.heap.size w w' := by
  have hb := (Below.refl w.heap.size w).alloc (Nat.le_refl _) (.cells #[.slice none 0 0, .slice none 0 0] 27)
  have O := hid (Blk.new w [.slice none 0 0, .slice none 0 0] 27)
  have HCO : Hid (Code (w.alloc (.cells #[.slice none 0 0, .slice none 0 0] 27)) ao n zs) := hid ⟨hcode.1, hcode.2.1.below (Nat.le_refl _) hb, hcode.2.2⟩
  have B := hid hb
  clear hb hcode
  go_enter Try.func10, Try.ntmps10
  go_wp2_with fail
  refine (new_any ao n cap zs _ HCO.out).mono ?_
  generalize w.alloc _ = wa at *
  rintro e w1 ⟨C, rfl, hc1, hb1⟩
  have hCge : wa.heap.size ≤ C := hc1.1
  have hwa := O.out.lt
  replace O := hid (O.out.below hb1 O.out.lt)
  replace B := hid (B.out.trans (hb1.mono B.out.size))
  have HC := hid hc1
  clear hc1 hb1
  have hwC : w.heap.size < C := by omega
  go_wp2_with fail
  refine (draw_disk wa ao n cap C zs w1 HCO.out HC.out).mono ?_
  rintro e w2 ⟨v, rfl, S, L, hS1, hS2, hL, ⟨va, vb, rfl, ho1, ho2⟩, hc2, he2⟩
  obtain ⟨xa, xc, rfl, _, _⟩ := ho1.shape
  obtain ⟨ya, yc, rfl, _, _⟩ := ho2.shape
  have hC1 := HC.out.lt
  have hsz1 := B.out.size
  replace O := hid (O.out.eff he2 (by omega))
  replace B := hid (B.out.trans (show Below w.heap.size w1 w2 from ⟨he2.os, he2.tape, he2.output, he2.size, fun q hq => he2.block q (by omega) (fun e => by have := Option.some.inj e; omega)⟩))
  have hsz2 := he2.size
  replace HC := hid hc2
  have G1 := hid ho1
  have G2 := hid ho2
  clear hc2 he2 ho1 ho2
  have hb := (Below.refl w2.heap.size w2).alloc (Nat.le_refl _) (.cells #[.slice xa S.length xc, .slice ya L.length yc] 27)
  have D := hid (Blk.new w2 [.slice xa S.length xc, .slice ya L.length yc] 27)
  replace O := hid (O.out.below hb O.out.lt)
  replace B := hid (B.out.trans (hb.mono B.out.size))
  replace HC := hid (HC.out.below hb)
  replace G1 := hid (G1.out.below hb)
  replace G2 := hid (G2.out.below hb)
  clear hb
  have q0 := D.out.cell (i := 0) rfl
  have q1 := D.out.cell (i := 1) rfl
  have hw3 := D.out.lt
  go_wp2_with fail
  clear q0 q1
  generalize hDB : w2.heap.size = DB at *
  generalize w2.alloc _ = w3 at *
  have hDBC : DB ≠ C := by omega
  refine (below_any wa ao n cap C zs _ _ HCO.out HC.out).mono ?_
  rintro e w4 ⟨z, rfl, hz4, hc4, he4⟩
  have HE := hid he4
  have hC4 := hid hc4
  clear he4 hc4
  go_wp2_with fail
  refine (below_any wa ao n cap C zs _ _ HCO.out hC4.out).mono ?_
  rintro e w5 ⟨z2, rfl, hz5, hc5, he5⟩
  replace HE := hid (HE.out.trans he5)
  replace hC4 := hid hc5
  clear he5 hc5
  go_wp2_with fail
  refine (once_any wa ao n cap C zs _ _ HCO.out hC4.out).mono ?_
  rintro e w6 ⟨b, rfl, hc6, he6⟩
  replace HE := hid (HE.out.trans he6)
  replace hC4 := hid hc6
  clear he6 hc6
  have hzz : 0 ≤ z ∧ z ≤ 9 := by omega
  cases b
  · obtain ⟨m, rfl⟩ : ∃ m : Nat, z2 = m := ⟨z2.toNat, by omega⟩
    have hm : m ≤ 200 := by omega
    go_wp2_with fail
    have hDX := hid (fun q (hq : Eff C w3 q) => (D.out.eff hq hDBC).cell (i := 0) rfl)
    have hDY := hid (fun q (hq : Eff C w3 q) => (D.out.eff hq hDBC).cell (i := 1) rfl)
    have q0 := hDX.out w6 HE.out
    have q1 := hDY.out w6 HE.out
    go_region_with (go_at_call 34; refine (any_any wa ao n cap C zs m _ (by omega) HCO.out ?_).mono ?_; · first | exact hC4.out | exact hC4.out.below (Below.refl _ _).drew
                    rintro e w8 ⟨sx, rfl, hsx, hc8, he8⟩
                    have he8' : Eff C w3 w8 := by first | exact HE.out.trans he8 | exact HE.out.drew.trans he8
                    have s0 := hDX.out w8 he8'
                    have s1 := hDY.out w8 he8'
                    have OX := O.out.eff he8' (by omega)
                    have k0 := OX.cell (i := 0) rfl
                    have k1 := OX.cell (i := 1) rfl
                    have l0 := OX.free 0
                    have l1 := OX.free 1)
    all_goals
      have hO5 : w.heap.size ≤ w8.heap.size := by have := he8'.size; have := B.out.size; omega
      have F := (OX.set 0 (.slice xa S.length xc)).set 1 (.slice ya L.length yc)
      have y0 := F.cell (i := 0) rfl
      have y1 := F.cell (i := 1) rfl
      have hcC : C < w3.heap.size := HC.out.lt
      have P1 := hid ((((G1.out.eff he8' (by omega)).setCell_other (a := ⟨w.heap.size, 0, none⟩) (fun e => (G1.out.eff he8' (by omega)).tag OX (by decide) e.symm) (.slice xa S.length xc)).setCell_other (a := ⟨w.heap.size, 1, none⟩) (fun e => (G1.out.eff he8' (by omega)).tag OX (by decide) e.symm) (.slice ya L.length yc)).mono (show w.heap.size ≤ w1.heap.size by omega))
      have P2 := hid ((((G2.out.eff he8' (by omega)).setCell_other (a := ⟨w.heap.size, 0, none⟩) (fun e => (G2.out.eff he8' (by omega)).tag OX (by decide) e.symm) (.slice xa S.length xc)).setCell_other (a := ⟨w.heap.size, 1, none⟩) (fun e => (G2.out.eff he8' (by omega)).tag OX (by decide) e.symm) (.slice ya L.length yc)).mono (show w.heap.size ≤ w1.heap.size by omega))
      have P4 := hid (((B.out.trans (show Below w.heap.size w3 w8 from ⟨he8'.os, he8'.tape, he8'.output, he8'.size, fun q hq => he8'.block q (by have := B.out.size; omega) (fun e => by have := Option.some.inj e; omega)⟩)).setCell (p := ⟨w.heap.size, 0, none⟩) (Nat.le_refl _) (.slice xa S.length xc)).setCell (p := ⟨w.heap.size, 1, none⟩) (Nat.le_refl _) (.slice ya L.length yc))
      clear F
      go_wp2_with fail
      refine bodyPost_ret (v := .tuple #[.agg #[.slice xa S.length xc, .slice ya L.length yc], .int .i64 (z - 1), .string sx]) (by simp [results, Try.results10, go_sem, y0, y1]) rfl ?_
      exact ⟨_, _, _, rfl, S, L, hS1, hS2, hL, by omega, by omega, ⟨_, _, rfl, P1.out, P2.out⟩, P4.out⟩
  · go_wp2_with fail
    refine (below_any wa ao n cap C zs _ _ HCO.out hC4.out).mono ?_
    rintro e w7 ⟨z3, rfl, hz7, hc7, he7⟩
    replace HE := hid (HE.out.trans he7)
    replace hC4 := hid hc7
    clear he7 hc7
    have h3 : 0 ≤ z3 ∧ z3 ≤ 1 := by omega
    go_wp2_with fail
    generalize hy : 128 + z3 = y at *
    obtain ⟨m, rfl⟩ : ∃ m : Nat, y = m := ⟨y.toNat, by omega⟩
    have hm : m ≤ 200 := by omega
    have hDX := hid (fun q (hq : Eff C w3 q) => (D.out.eff hq hDBC).cell (i := 0) rfl)
    have hDY := hid (fun q (hq : Eff C w3 q) => (D.out.eff hq hDBC).cell (i := 1) rfl)
    have q0 := hDX.out w7 HE.out
    have q1 := hDY.out w7 HE.out
    go_region_with (go_at_call 34; refine (any_any wa ao n cap C zs m _ (by omega) HCO.out ?_).mono ?_; · first | exact hC4.out | exact hC4.out.below (Below.refl _ _).drew
                    rintro e w8 ⟨sx, rfl, hsx, hc8, he8⟩
                    have he8' : Eff C w3 w8 := by first | exact HE.out.trans he8 | exact HE.out.drew.trans he8
                    have s0 := hDX.out w8 he8'
                    have s1 := hDY.out w8 he8'
                    have OX := O.out.eff he8' (by omega)
                    have k0 := OX.cell (i := 0) rfl
                    have k1 := OX.cell (i := 1) rfl
                    have l0 := OX.free 0
                    have l1 := OX.free 1)
    all_goals
      have hO5 : w.heap.size ≤ w8.heap.size := by have := he8'.size; have := B.out.size; omega
      have F := (OX.set 0 (.slice xa S.length xc)).set 1 (.slice ya L.length yc)
      have y0 := F.cell (i := 0) rfl
      have y1 := F.cell (i := 1) rfl
      have hcC : C < w3.heap.size := HC.out.lt
      have P1 := hid ((((G1.out.eff he8' (by omega)).setCell_other (a := ⟨w.heap.size, 0, none⟩) (fun e => (G1.out.eff he8' (by omega)).tag OX (by decide) e.symm) (.slice xa S.length xc)).setCell_other (a := ⟨w.heap.size, 1, none⟩) (fun e => (G1.out.eff he8' (by omega)).tag OX (by decide) e.symm) (.slice ya L.length yc)).mono (show w.heap.size ≤ w1.heap.size by omega))
      have P2 := hid ((((G2.out.eff he8' (by omega)).setCell_other (a := ⟨w.heap.size, 0, none⟩) (fun e => (G2.out.eff he8' (by omega)).tag OX (by decide) e.symm) (.slice xa S.length xc)).setCell_other (a := ⟨w.heap.size, 1, none⟩) (fun e => (G2.out.eff he8' (by omega)).tag OX (by decide) e.symm) (.slice ya L.length yc)).mono (show w.heap.size ≤ w1.heap.size by omega))
      have P4 := hid (((B.out.trans (show Below w.heap.size w3 w8 from ⟨he8'.os, he8'.tape, he8'.output, he8'.size, fun q hq => he8'.block q (by have := B.out.size; omega) (fun e => by have := Option.some.inj e; omega)⟩)).setCell (p := ⟨w.heap.size, 0, none⟩) (Nat.le_refl _) (.slice xa S.length xc)).setCell (p := ⟨w.heap.size, 1, none⟩) (Nat.le_refl _) (.slice ya L.length yc))
      clear F
      go_wp2_with fail
      refine bodyPost_ret (v := .tuple #[.agg #[.slice xa S.length xc, .slice ya L.length yc], .int .i64 (z - 1), .string sx]) (by simp [results, Try.results10, go_sem, y0, y1]) rfl ?_
      exact ⟨_, _, _, rfl, S, L, hS1, hS2, hL, by omega, by omega, ⟨_, _, rfl, P1.out, P2.out⟩, P4.out⟩
end Go.Proofs.Ytlphojlccecnhaa
