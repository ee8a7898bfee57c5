/- The draws of the law FnCrash: l10Keep and DrawDiskCrash of the specification. -/
import Derived.Test.YtlphojlccecnhaaDd
namespace Go.Proofs.Ytlphojlccecnhaa
open Go.RowKit
set_option linter.unusedVariables false

theorem push_int {P : Program} {ops : Array Oper} {rest : List Oper} {o : Oper} {a : Act} {Q : Exit → Act → World → Prop} (w : World) (g : Nat) (hg : w.heap.size = g) (hgd : o.guard = none) (s x : Operand) (t : TypeId)
    (ho : o.op = .call { callee := .builtin .append, args := #[s, x], argTypes := #[t, t] })
    (base : Nat) (e : TypeId) (k : IntKind) (z : Int) (bytes : Nat) (ht : P.underlying t = some (.slice e)) (hinfo : (P.info? e).map (fun i => (i.zero, i.size, i.bytes)) = some (some (.int k z), 1, bytes))
    (v : Value) (xs : List Int) (hs : a.eval s = v) (hown : Own w base e k v xs) (y : Int) (hx : a.eval x = .slice (some ⟨g, 0, none⟩) 1 1)
    (hlen : xs.length < 1000000000000) (hbytes : bytes ≤ 8)
    (h : ∀ v' w', Own w' base e k v' (xs ++ [y]) → Below base w w' → wpList P ops Q rest (a.put o.dst v') w') : wpList P ops Q (o :: rest) a (w.alloc (.cells #[.int k y] e)) := by
  subst hg
  exact wpList_push w hgd s x t ho base e k z bytes ht hinfo v xs hs hown y hx hlen hbytes h

set_option maxRecDepth 100000 in
set_option maxHeartbeats 3200000 in
theorem draw_keep (w0 : World) (ao : Option Addr) (n cap C : Nat) (zs : List Int) (m : Nat) (w : World) (hm : m ≤ 100) (hcode : Code w0 ao n zs) (hcur : Cur w0 ao n cap C w) :
    Calls Try.prog 46 #[.pointer (some ⟨C, 0, none⟩), .int .i64 m] w fun e w' => ∃ v, e = .returned v ∧ ∃ ks : List Int, ks.length ≤ 100 ∧ Own w' w.heap.size 3 .i64 v ks ∧ Cur w0 ao n cap C w' ∧ Eff C w w' := by
  have HCO := hid hcode
  have hClt := hcur.lt
  have hb := (Below.refl w.heap.size w).alloc (Nat.le_refl _) (.cells #[] 3)
  have HO := hid (Own.empty w 3 .i64 w.heap.size (Nat.le_refl _))
  have HE := hid ((Eff.refl C w).alloc (.cells #[] 3))
  have HC := hid (hcur.below hb)
  clear hcode hcur hb
  go_enter Try.func46, Try.ntmps46
  go_wp2_with fail
  generalize w.alloc (.cells #[] 3) = wa at *
  go_loopw [5, 6] (fun q i wr => ∃ (k : Nat) (ks : List Int), k ≤ m ∧ i = .int .i64 k ∧ Hid (ks.length = k) ∧ Hid (Own wr w.heap.size 3 .i64 q ks) ∧ Hid (Cur w0 ao n cap C wr) ∧ Hid (Eff C w wr)) (fun _ i _ => m - (intOf i).toNat)
  case atStart => exact ⟨0, [], by omega, rfl, rfl, HO.out, HC.out, HE.out⟩
  case round =>
    obtain ⟨k, ks, hk, rfl, hks, hown, hc, he⟩ := hrel
    clear HO HE HC
    obtain ⟨qa, qc, rfl⟩ := hown.out.shape
    by_cases hlt : k < m
    · have hlt' : (k : Int) < (m : Int) := by omega
      have hw : w.heap.size ≤ wr.heap.size := he.out.size
      have hb := (Below.refl wr.heap.size wr).alloc (Nat.le_refl _) (.cells #[.int .i64 0, .int .i64 1, .int .i64 0, .int .i64 1, .int .i64 2, .int .i64 (-1)] 3)
      have T := Blk.new wr [.int .i64 0, .int .i64 1, .int .i64 0, .int .i64 1, .int .i64 2, .int .i64 (-1)] 3
      have HP := hid (pick_any w0 ao n cap C zs wr.heap.size 6 6 [0, 1, 0, 1, 2, -1] _ HCO.out (hc.out.below hb) (by decide) rfl (by decide) hc.out.lt (fun j hj => by
        match j, hj with
        | 0, _ => exact T.cell rfl
        | 1, _ => exact T.cell rfl
        | 2, _ => exact T.cell rfl
        | 3, _ => exact T.cell rfl
        | 4, _ => exact T.cell rfl
        | 5, _ => exact T.cell rfl))
      have HOA := hid (hown.out.below hb)
      have HEA := hid (he.out.alloc (.cells #[.int .i64 0, .int .i64 1, .int .i64 0, .int .i64 1, .int .i64 2, .int .i64 (-1)] 3))
      have hlk : ks.length < 1000000000000 := by have := hks.out; omega
      clear hb T
      go_wp2_with fail
      refine HP.out.mono ?_
      clear HP
      generalize wr.alloc _ = wb at *
      rintro e w2 ⟨j, hj, rfl, hc2, he2⟩
      generalize ([0, 1, 0, 1, 2, -1] : List Int).getD j 0 = y
      have HO2 := hid (Eff.own HOA.out he2 hClt)
      have HE2 := hid (HEA.out.trans he2)
      have HC2 := hid hc2
      clear hc2 he2
      go_wp2_with (at_builtin; refine push_int w2 w2.heap.size rfl rfl _ _ 36 rfl w.heap.size 3 .i64 0 8 Try.underlying36 Try.info3 (.slice qa ks.length qc) ks rfl HO2.out y rfl hlk (by decide) ?_)
      intro v3 w3 ho3 hb3
      obtain ⟨qa3, qc3, rfl⟩ := ho3.shape
      have HO3 := hid ho3
      have HC3 := hid (HC2.out.belowB hClt hb3)
      have HE3 : Hid (Eff C w w3) := hid (HE2.out.ofBelow hb3)
      clear ho3 hb3
      go_wp2_with fail
      go_roundw
      case rel => exact ⟨k + 1, _, by omega, by go_num, by rw [List.length_append, hks.out]; rfl, HO3.out, HC3.out, HE3.out⟩
      case measure => simp [intOf]; omega
    · obtain rfl : k = m := by omega
      go_wp2_with fail
      go_ret
      exact ⟨_, rfl, ks, by have := hks.out; omega, hown.out, hc.out, he.out⟩

set_option maxRecDepth 100000 in
set_option maxHeartbeats 3200000 in
theorem draw_crash (ao : Option Addr) (n cap : Nat) (zs : List Int) (w : World) (hcode : Code w ao n zs) :
    Calls Try.prog 19 #[.slice ao n cap] w fun e w' => ∃ v kv, e = .returned (.tuple #[v, kv]) ∧ ∃ (S : List ByteArray) (L : List (Int × ByteArray)) (ks : List Int), S.length ≤ 8 ∧ 1 ≤ S.length ∧ L.length ≤ 20 ∧ ks.length ≤ 100 ∧ DO w' w.heap.size v S L ∧ Own w' w.heap.size 3 .i64 kv ks ∧ Below w.heap.size w w' := by
  have hb := (Below.refl w.heap.size w).alloc (Nat.le_refl _) (.cells #[.slice none 0 0, .slice none 0 0] 27)
  have O := hid (Blk.new w [.slice none 0 0, .slice none 0 0] 27)
  have HCO : Hid (Code (w.alloc (.cells #[.slice none 0 0, .slice none 0 0] 27)) ao n zs) := hid ⟨hcode.1, hcode.2.1.below (Nat.le_refl _) hb, hcode.2.2⟩
  have B := hid hb
  clear hb hcode
  go_enter Try.func19, Try.ntmps19
  go_wp2_with fail
  refine (new_any ao n cap zs _ HCO.out).mono ?_
  generalize w.alloc _ = wa at *
  rintro e w1 ⟨C, rfl, hc1, hb1⟩
  have hCge : wa.heap.size ≤ C := hc1.1
  have hwa := O.out.lt
  replace O := hid (O.out.below hb1 O.out.lt)
  replace B := hid (B.out.trans (hb1.mono B.out.size))
  have HC := hid hc1
  clear hc1 hb1
  have hwC : w.heap.size < C := by omega
  go_wp2_with fail
  refine (draw_disk wa ao n cap C zs w1 HCO.out HC.out).mono ?_
  rintro e w2 ⟨v, rfl, S, L, hS1, hS2, hL, ⟨va, vb, rfl, ho1, ho2⟩, hc2, he2⟩
  obtain ⟨xa, xc, rfl, _, _⟩ := ho1.shape
  obtain ⟨ya, yc, rfl, _, _⟩ := ho2.shape
  have hC1 := HC.out.lt
  have hsz1 := B.out.size
  replace O := hid (O.out.eff he2 (by omega))
  replace B := hid (B.out.trans (show Below w.heap.size w1 w2 from ⟨he2.os, he2.tape, he2.output, he2.size, fun q hq => he2.block q (by omega) (fun e => by have := Option.some.inj e; omega)⟩))
  have hsz2 := he2.size
  replace HC := hid hc2
  have G1 := hid ho1
  have G2 := hid ho2
  clear hc2 he2 ho1 ho2
  have hb := (Below.refl w2.heap.size w2).alloc (Nat.le_refl _) (.cells #[.slice xa S.length xc, .slice ya L.length yc] 27)
  have D := hid (Blk.new w2 [.slice xa S.length xc, .slice ya L.length yc] 27)
  replace O := hid (O.out.below hb O.out.lt)
  replace B := hid (B.out.trans (hb.mono B.out.size))
  replace HC := hid (HC.out.below hb)
  replace G1 := hid (G1.out.below hb)
  replace G2 := hid (G2.out.below hb)
  clear hb
  go_wp2_with fail
  generalize hDB : w2.heap.size = DB at *
  generalize w2.alloc _ = w3 at *
  have hDBC : DB ≠ C := by omega
  have q0 := D.out.cell (i := 0) rfl
  have q1 := D.out.cell (i := 1) rfl
  have HD0 := hid (fun q (hq : Eff C w3 q) => (D.out.eff hq hDBC).cell (i := 0) rfl)
  have HD1 := hid (fun q (hq : Eff C w3 q) => (D.out.eff hq hDBC).cell (i := 1) rfl)
  have hw3 := D.out.lt
  go_region_with (first
    | (go_at_call 46; have hz := hc4; refine (draw_keep wa ao n cap C zs zn _ (by omega) HCO.out ?_).mono ?_; · first | exact hc4 | exact hc4.below (Below.refl _ _).drew
       rintro e w5 ⟨kv, rfl, ks, hks, hok, hc5, he5⟩
       obtain ⟨ka, kc, rfl⟩ := hok.shape
       have he5' : Eff C w3 w5 := by first | exact he4'.trans he5 | exact he4'.drew.trans he5
       have s0 := HD0.out w5 he5'
       have s1 := HD1.out w5 he5'
       have OX := O.out.eff he5' (by omega)
       have k0 := OX.cell (i := 0) rfl
       have k1 := OX.cell (i := 1) rfl
       have l0 := OX.free 0
       have l1 := OX.free 1)
    | (go_at_call 32; refine (below_any wa ao n cap C zs 10 _ HCO.out ?_).mono ?_; · first | exact HC.out | exact HC.out.below (Below.refl _ _).drew
       rintro e w4 ⟨z, rfl, hz4, hc4, he4⟩
       have he4' : Eff C w3 w4 := by first | exact he4 | exact (Eff.refl _ _).drew.trans he4
       have r0 := HD0.out w4 he4'
       have r1 := HD1.out w4 he4'
       obtain ⟨zn, rfl⟩ : ∃ zn : Nat, z = zn := ⟨z.toNat, by omega⟩))
  all_goals
    have hO5 : w.heap.size ≤ w5.heap.size := by have := he5'.size; have := B.out.size; omega
    have F := (OX.set 0 (.slice xa S.length xc)).set 1 (.slice ya L.length yc)
    have y0 := F.cell (i := 0) rfl
    have y1 := F.cell (i := 1) rfl
    have hcC : C < w3.heap.size := HC.out.lt
    have P1 := hid ((((G1.out.eff he5' (by omega)).setCell_other (a := ⟨w.heap.size, 0, none⟩) (fun e => (G1.out.eff he5' (by omega)).tag OX (by decide) e.symm) (.slice xa S.length xc)).setCell_other (a := ⟨w.heap.size, 1, none⟩) (fun e => (G1.out.eff he5' (by omega)).tag OX (by decide) e.symm) (.slice ya L.length yc)).mono (show w.heap.size ≤ w1.heap.size by omega))
    have P2 := hid ((((G2.out.eff he5' (by omega)).setCell_other (a := ⟨w.heap.size, 0, none⟩) (fun e => (G2.out.eff he5' (by omega)).tag OX (by decide) e.symm) (.slice xa S.length xc)).setCell_other (a := ⟨w.heap.size, 1, none⟩) (fun e => (G2.out.eff he5' (by omega)).tag OX (by decide) e.symm) (.slice ya L.length yc)).mono (show w.heap.size ≤ w1.heap.size by omega))
    have P3 := hid ((((show OwG w5 _ 3 1 (.slice ka ks.length kc) ks.length (ks.map (Value.int .i64)) from hok).setCell_other (a := ⟨w.heap.size, 0, none⟩) (fun e => (show OwG w5 _ 3 1 (.slice ka ks.length kc) ks.length (ks.map (Value.int .i64)) from hok).tag OX (by decide) e.symm) (.slice xa S.length xc)).setCell_other (a := ⟨w.heap.size, 1, none⟩) (fun e => (show OwG w5 _ 3 1 (.slice ka ks.length kc) ks.length (ks.map (Value.int .i64)) from hok).tag OX (by decide) e.symm) (.slice ya L.length yc)).mono (base' := w.heap.size) (by have := he4'.size; have := B.out.size; first | omega | (show w.heap.size ≤ w4.heap.size; omega)))
    have P4 := hid (((B.out.trans (show Below w.heap.size w3 w5 from ⟨he5'.os, he5'.tape, he5'.output, he5'.size, fun q hq => he5'.block q (by have := B.out.size; omega) (fun e => by have := Option.some.inj e; omega)⟩)).setCell (p := ⟨w.heap.size, 0, none⟩) (Nat.le_refl _) (.slice xa S.length xc)).setCell (p := ⟨w.heap.size, 1, none⟩) (Nat.le_refl _) (.slice ya L.length yc))
    clear F
    go_wp2_with fail
    refine bodyPost_ret (v := .tuple #[.agg #[.slice xa S.length xc, .slice ya L.length yc], .slice ka ks.length kc]) (by simp [results, Try.results19, go_sem, y0, y1]) rfl ?_
    exact ⟨_, _, rfl, S, L, ks, hS1, hS2, hL, hks, ⟨_, _, rfl, P1.out, P2.out⟩, P3.out, P4.out⟩
end Go.Proofs.Ytlphojlccecnhaa
