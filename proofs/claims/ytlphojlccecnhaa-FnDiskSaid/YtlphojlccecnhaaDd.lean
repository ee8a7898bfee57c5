/- The draw of a disk: l10Disk of the specification. -/
import Derived.Test.YtlphojlccecnhaaSy
import Derived.Test.YtlphojlccecnhaaWr
import Derived.Test.YtlphojlccecnhaaAny
import Derived.Test.YtlphojlccecnhaaRi
namespace Go.Proofs.Ytlphojlccecnhaa
open Go.RowKit
set_option linter.unusedVariables false

theorem OwG.eff {C base e sz : Nat} {w w' : World} {v : Value} {n : Nat} {cs : List Value} (h : OwG w base e sz v n cs) (he : Eff C w w') (hb : C < base) : OwG w' base e sz v n cs := by
  refine h.kept he (fun g hg e => ?_)
  have := (h.2.lt g hg).1
  have := Option.some.inj e
  omega
theorem Blk.eff {C : Nat} {w w' : World} {b : Nat} {l : List Value} {t : TypeId} (h : Blk w b l t) (he : Eff C w w') (hne : b ≠ C) : Blk w' b l t := h.kept he (fun e => hne (Option.some.inj e))


/-- What the operations of 'next, _ := DiskWrite(d, l01Below(..), l01Any(..))' leave. -/
def VD (S : List ByteArray) (L : List (Int × ByteArray)) (va vb : Value) (C DB M : Nat) : Nat → Value → World → Prop
  | 0, u, _ => u = .agg #[va, vb]
  | 1, u, _ => u = .pointer (some ⟨C, 0, none⟩)
  | 2, u, _ => u = .pointer (some ⟨DB, 0, none⟩)
  | 3, u, _ => u = va
  | 4, u, _ => u = .int .i64 S.length
  | 5, u, _ => ∃ x : Int, u = .int .i64 x
  | 8, u, _ => ∃ x : Nat, u = .int .i64 x ∧ x ≤ 1000000
  | 9, u, _ => ∃ s, u = .string s
  | 10, u, w => ∃ v1 v2 b, u = .tuple #[.agg #[v1, v2], .bool b] ∧ ∃ L' : List (Int × ByteArray), OwG w M 9 1 v1 S.length (encS S) ∧ OwG w M 43 2 v2 L'.length (encW L') ∧ L'.length ≤ L.length + 1
  | 12, u, w => ∃ v1 v2, u = .agg #[v1, v2] ∧ ∃ L' : List (Int × ByteArray), OwG w M 9 1 v1 S.length (encS S) ∧ OwG w M 43 2 v2 L'.length (encW L') ∧ L'.length ≤ L.length + 1
  | 13, u, _ => ∃ b, u = .bool b
  | 14, u, w => ∃ N x y, u = .pointer (some ⟨N, 0, none⟩) ∧ M ≤ N ∧ Blk w N [x, y] 27
  | 15, u, w => ∃ N v1 v2, u = .pointer (some ⟨N, 0, none⟩) ∧ M ≤ N ∧ Blk w N [v1, v2] 27 ∧ ∃ L' : List (Int × ByteArray), OwG w M 9 1 v1 S.length (encS S) ∧ OwG w M 43 2 v2 L'.length (encW L') ∧ L'.length ≤ L.length + 1
  | _, _, _ => True
theorem VD.eff {S : List ByteArray} {L : List (Int × ByteArray)} {va vb : Value} {C DB M : Nat} {w w' : World} (hC : C < M) (he : Eff C w w') : ∀ k u, VD S L va vb C DB M k u w → VD S L va vb C DB M k u w' := by
  intro k u h
  unfold VD at h ⊢
  split at h
  all_goals first
    | exact h
    | (obtain ⟨v1, v2, b, e, L', h1, h2, h3⟩ := h; exact ⟨v1, v2, b, e, L', h1.eff he hC, h2.eff he hC, h3⟩)
    | (obtain ⟨v1, v2, e, L', h1, h2, h3⟩ := h; exact ⟨v1, v2, e, L', h1.eff he hC, h2.eff he hC, h3⟩)
    | (obtain ⟨N, x, y, e, hN, hb⟩ := h; exact ⟨N, x, y, e, hN, hb.eff he (by omega)⟩)
    | (obtain ⟨N, v1, v2, e, hN, hb, L', h1, h2, h3⟩ := h; exact ⟨N, v1, v2, e, hN, hb.eff he (by omega), L', h1.eff he hC, h2.eff he hC, h3⟩)
/-- The store into the new variable. -/
theorem VD.set {S : List ByteArray} {L : List (Int × ByteArray)} {va vb : Value} {C DB M N : Nat} {x0 y0 : Value} {w : World} (hb : Blk w N [x0, y0] 27) (i : Nat) (z : Value) (hi : i < 2) : ∀ k u, k ≠ 15 → (k = 14 → u = .pointer (some ⟨N, 0, none⟩)) → VD S L va vb C DB M k u w → VD S L va vb C DB M k u (w.setCell ⟨N, i, none⟩ z) := by
  intro k u hk hk2 h
  unfold VD at h ⊢
  split at h
  all_goals first
    | exact h
    | (obtain ⟨v1, v2, b, e, L', h1, h2, h3⟩ := h; exact ⟨v1, v2, b, e, L', h1.setCell_other (fun e => h1.tag hb (by decide) e.symm) z, h2.setCell_other (fun e => h2.tag hb (by decide) e.symm) z, h3⟩)
    | (obtain ⟨v1, v2, e, L', h1, h2, h3⟩ := h; exact ⟨v1, v2, e, L', h1.setCell_other (fun e => h1.tag hb (by decide) e.symm) z, h2.setCell_other (fun e => h2.tag hb (by decide) e.symm) z, h3⟩)
    | (obtain ⟨N', x, y, e, hN, hb'⟩ := h
       have e2 := hk2 rfl
       rw [e2] at e
       cases e
       match i, hi with
       | 0, _ => exact ⟨N, _, _, e2, hN, hb.set 0 z⟩
       | 1, _ => exact ⟨N, _, _, e2, hN, hb.set 1 z⟩)
    | exact absurd rfl hk
def Kd : Nat → Nat := fun j => #[0, 1, 2, 3, 4, 5, 1, 1, 8, 9, 10, 10, 12, 13, 14, 15, 13].getD j 99
def Dd : Nat → Nat := fun j => #[24, 25, 26, 27, 28, 29, 30, 31, 32, 33, 34, 23, 35, 36, 7, 7, 8].getD j 999
theorem Dd_ne : ∀ i j : Fin 17, j ≠ i → i.val ≠ 14 → i.val ≠ 15 → Dd j ≠ Dd i := by decide
theorem Dd_ne14 : ∀ j : Fin 17, j.val ≠ 14 → j.val ≠ 15 → Dd j ≠ Dd 14 := by decide
theorem Kd_ne : ∀ j : Fin 17, j.val ≠ 15 → Kd j ≠ 15 := by decide
theorem Kd_14 : ∀ j : Fin 17, Kd j = 14 → j.val = 14 := by decide

/-- What the operations of 'd.Late = append(d.Late, Write{..})' leave. -/
def VE (S : List ByteArray) (L : List (Int × ByteArray)) (va vb : Value) (B C DB M : Nat) : Nat → Value → World → Prop
  | 0, u, _ => u = .pointer (some ⟨DB, 1, none⟩)
  | 1, u, _ => u = vb
  | 2, u, _ => u = .pointer (some ⟨C, 0, none⟩)
  | 3, u, _ => u = .pointer (some ⟨DB, 0, none⟩)
  | 4, u, _ => u = va
  | 5, u, _ => u = .int .i64 S.length
  | 6, u, w => ∃ g, u = .slice (some ⟨g, 0, none⟩) 2 2 ∧ M ≤ g ∧ Blk w g [.int .i64 (-1), .int .i64 S.length] 3
  | 7, u, _ => ∃ x : Int, u = .int .i64 x
  | 8, u, _ => ∃ x : Int, u = .agg #[.int .i64 x, .string ByteArray.empty]
  | 9, u, w => ∃ g x, u = .slice (some ⟨g, 0, none⟩) 1 1 ∧ M ≤ g ∧ Blk w g [.int .i64 x, .string ByteArray.empty] 43
  | 10, u, w => ∃ x : Int, OwG w B 43 2 u (L.length + 1) (encW (L ++ [(x, ByteArray.empty)]))
  | 11, u, _ => u = .pointer (some ⟨DB, 1, none⟩)
  | 12, u, w => ∃ x : Int, OwG w B 43 2 u (L.length + 1) (encW (L ++ [(x, ByteArray.empty)])) ∧ Blk w DB [va, u] 27
  | _, _, _ => True
theorem VE.eff {S : List ByteArray} {L : List (Int × ByteArray)} {va vb : Value} {B C DB M : Nat} {w w' : World} (hC : C < M) (hB : C < B) (hD : DB ≠ C) (he : Eff C w w') : ∀ k u, VE S L va vb B C DB M k u w → VE S L va vb B C DB M k u w' := by
  intro k u h
  unfold VE at h ⊢
  split at h
  all_goals first
    | exact h
    | (obtain ⟨x, h1, h2⟩ := h; exact ⟨x, h1.eff he hB, h2.eff he hD⟩)
    | (obtain ⟨x, h1⟩ := h; exact ⟨x, h1.eff he hB⟩)
    | (obtain ⟨g, e, hg, hb⟩ := h; exact ⟨g, e, hg, hb.eff he (by omega)⟩)
    | (obtain ⟨g, x, e, hg, hb⟩ := h; exact ⟨g, x, e, hg, hb.eff he (by omega)⟩)
/-- The append. -/
theorem VE.app {S : List ByteArray} {L : List (Int × ByteArray)} {va vb : Value} {B C DB M : Nat} {w w' : World} {row : Option Nat} (hr : ∀ g, row = some g → g < M) (hg : w.grownBy w' row) : ∀ k u, k ≠ 10 → k ≠ 12 → VE S L va vb B C DB M k u w → VE S L va vb B C DB M k u w' := by
  intro k u h10 h12 h
  unfold VE at h ⊢
  split at h
  all_goals first
    | exact h
    | (obtain ⟨g, e, hgM, hb⟩ := h; exact ⟨g, e, hgM, hb.kept hg (fun e => by have := hr g e.symm; omega)⟩)
    | (obtain ⟨g, x, e, hgM, hb⟩ := h; exact ⟨g, x, e, hgM, hb.kept hg (fun e => by have := hr g e.symm; omega)⟩)
    | exact absurd rfl h10
    | exact absurd rfl h12
/-- The store into the disk. -/
theorem VE.set {S : List ByteArray} {L : List (Int × ByteArray)} {va vb : Value} {B C DB M : Nat} {w : World} {x0 y0 : Value} (hD : DB < M) (hb0 : Blk w DB [x0, y0] 27) (z : Value) : ∀ k u, k ≠ 12 → VE S L va vb B C DB M k u w → VE S L va vb B C DB M k u (w.setCell ⟨DB, 1, none⟩ z) := by
  intro k u h12 h
  unfold VE at h ⊢
  split at h
  all_goals first
    | exact h
    | (obtain ⟨g, e, hgM, hb⟩ := h; exact ⟨g, e, hgM, hb.other (a := ⟨DB, 1, none⟩) (by show g ≠ DB; omega) z⟩)
    | (obtain ⟨g, x, e, hgM, hb⟩ := h; exact ⟨g, x, e, hgM, hb.other (a := ⟨DB, 1, none⟩) (by show g ≠ DB; omega) z⟩)
    | (obtain ⟨x, h1⟩ := h; exact ⟨x, h1.setCell_other (fun e => h1.tag hb0 (by decide) e.symm) z⟩)
    | exact absurd rfl h12
theorem Facts.step2 {n : Nat} {V : Nat → Value → World → Prop} {D : Nat → Nat} {listed : Array Bool} {u : Nat → Value} {w w' : World} (h : Facts n V D listed u w) (i : Nat) (v : Value)
    (hD : ∀ j, j < n → j ≠ i → listed.getD j false = true → D j ≠ D i) (hV : ∀ j x, j < n → j ≠ i → listed.getD j false = true → V j x w → V j x w') (hv : V i v w') : Facts n V D (listed.setIfInBounds i true) (upd u (D i) v) w' := by
  intro j hj hl
  by_cases e : j = i
  · subst e
    simpa [upd] using hv
  · rw [getD_set_ne false (fun h => e h.symm)] at hl
    have h1 : upd u (D i) v (D j) = u (D j) := by simp [upd, hD j hj e hl]
    rw [h1]
    exact hV j _ hj e hl (h j hj hl)
def De : Nat → Nat := fun j => #[46, 47, 48, 49, 50, 51, 52, 53, 54, 55, 56, 57, 56].getD j 999
theorem De_ne : ∀ i j : Fin 13, j ≠ i → i.val ≠ 10 → i.val ≠ 12 → De j ≠ De i := by decide
theorem De_ne10 : ∀ j : Fin 13, j.val ≠ 10 → j.val ≠ 12 → De j ≠ De 10 := by decide
theorem Ke_ne : ∀ j : Fin 13, j.val ≠ 12 → j.val ≠ 12 := fun _ h => h

/-- What the operations of 'd.Sectors[0] = l01Any(c, 128+l01Below(c, 2))' leave. -/
def VF (S : List ByteArray) (va : Value) (B C DB g : Nat) : Nat → Value → World → Prop
  | 0, u, _ => u = .pointer (some ⟨DB, 0, none⟩)
  | 1, u, _ => u = va
  | 2, u, _ => u = .pointer (some ⟨C, 0, none⟩)
  | 3, u, _ => u = .pointer (some ⟨C, 0, none⟩)
  | 4, u, _ => ∃ z : Nat, u = .int .i64 z ∧ z ≤ 2
  | 5, u, _ => ∃ z : Nat, u = .int .i64 z ∧ z ≤ 1000
  | 6, u, _ => ∃ s, u = .string s
  | 7, u, _ => u = .pointer (some ⟨g, 0, none⟩)
  | 8, _, w => ∃ s, OwG w B 9 1 va S.length (encS (S.set 0 s))
  | _, _, _ => True
theorem VF.eff {S : List ByteArray} {va : Value} {B C DB g : Nat} {w w' : World} (hB : C < B) (he : Eff C w w') : ∀ k u, VF S va B C DB g k u w → VF S va B C DB g k u w' := by
  intro k u h
  unfold VF at h ⊢
  split at h
  all_goals first
    | exact h
    | (obtain ⟨x, h1⟩ := h; exact ⟨x, h1.eff he hB⟩)
theorem VF.pure {S : List ByteArray} {va : Value} {B C DB g : Nat} {w w' : World} : ∀ k u, k ≠ 8 → VF S va B C DB g k u w → VF S va B C DB g k u w' := by
  intro k u hk h
  unfold VF at h ⊢
  split at h
  all_goals first
    | exact h
    | exact absurd rfl hk
def Df : Nat → Nat := fun j => #[60, 61, 62, 63, 64, 65, 66, 67, 999].getD j 999
theorem Df_ne : ∀ i j : Fin 9, j ≠ i → Df j ≠ Df i := by decide

set_option maxRecDepth 100000 in
set_option maxHeartbeats 6400000 in
theorem draw_disk (w0 : World) (ao : Option Addr) (n cap C : Nat) (zs : List Int) (w : World) (hcode : Code w0 ao n zs) (hcur : Cur w0 ao n cap C w) :
    Calls Try.prog 31 #[.pointer (some ⟨C, 0, none⟩)] w fun e w' => ∃ v, e = .returned v ∧ ∃ (S : List ByteArray) (L : List (Int × ByteArray)), S.length ≤ 8 ∧ 1 ≤ S.length ∧ L.length ≤ 20 ∧ DO w' w.heap.size v S L ∧ Cur w0 ao n cap C w' ∧ Eff C w w' := by
  have HCO := hid hcode
  have hClt := hcur.lt
  have O := hid (Blk.new w [.slice none 0 0, .slice none 0 0] 27)
  have HE := hid ((Eff.refl C w).alloc (.cells #[.slice none 0 0, .slice none 0 0] 27))
  have HC := hid (hcur.below ((Below.refl w.heap.size w).alloc (Nat.le_refl _) (.cells #[.slice none 0 0, .slice none 0 0] 27)))
  clear hcode hcur
  go_enter Try.func31, Try.ntmps31
  go_wp2_with fail
  refine (below_any w0 ao n cap C zs 8 _ HCO.out HC.out).mono ?_
  generalize w.alloc _ = wa at *
  rintro e w1 ⟨x, rfl, hx, hc1, he1⟩
  replace O := hid (O.out.eff he1 (by omega))
  replace HE := hid (HE.out.trans he1)
  replace HC := hid hc1
  have hx8 : x ≤ 7 := by omega
  have hx0 : 0 ≤ x := hx.1
  clear hc1 he1 hx
  have HST := hid (spec_start (1 + x) w1)
  have hS1 : (stR (1 + x)).1.length ≤ 8 := by rw [stR_yes (by omega) (by omega)]; simp; omega
  have hS2 : 1 ≤ (stR (1 + x)).1.length := by rw [stR_yes (by omega) (by omega)]; simp; omega
  generalize (stR (1 + x)).1 = S0 at *
  generalize (stR (1 + x)).2 = okb at *
  obtain ⟨L0, hL⟩ : ∃ L0 : List (Int × ByteArray), L0 = [] := ⟨_, rfl⟩
  have hL1 : L0.length ≤ 0 := by rw [hL]; simp
  rw [← hL] at HST
  clear hL
  go_wp2_with fail
  refine HST.out.mono ?_
  clear HST
  rintro e w2 ⟨v, rfl, ⟨va, vb, rfl, ho1, ho2⟩, hb⟩
  obtain ⟨xa, xc, rfl, _, _⟩ := ho1.shape
  obtain ⟨ya, yc, rfl, _, _⟩ := ho2.shape
  have hsz1 := HE.out.size
  replace O := hid (O.out.below hb O.out.lt)
  replace HE := hid (HE.out.trans ⟨hb.os, hb.tape, hb.output, hb.size, fun k hk _ => hb.block k hk⟩)
  replace HC := hid (HC.out.below hb)
  have hCw1 : C < w1.heap.size := by omega
  have G1 := hid (ho1.mono (base' := w.heap.size) (by omega))
  have G2 := hid (ho2.mono (base' := w.heap.size) (by omega))
  clear ho1 ho2 hb
  have hb := (Below.refl w2.heap.size w2).alloc (Nat.le_refl _) (.cells #[.slice xa S0.length xc, .slice ya L0.length yc] 27)
  have D := hid (Blk.new w2 [.slice xa S0.length xc, .slice ya L0.length yc] 27)
  have hD0 : w.heap.size < w2.heap.size := by have := O.out.lt; omega
  have hDC : C < w2.heap.size := by have := HE.out.size; omega
  replace O := hid (O.out.below hb O.out.lt)
  replace HE := hid (HE.out.trans ⟨hb.os, hb.tape, hb.output, hb.size, fun k hk _ => hb.block k hk⟩)
  replace HC := hid (HC.out.below hb)
  replace G1 := hid (G1.out.below hb)
  replace G2 := hid (G2.out.below hb)
  clear hb
  go_wp2_with fail
  refine (below_any w0 ao n cap C zs 9 _ HCO.out HC.out).mono ?_
  generalize hw2 : w2.heap.size = DB at *
  generalize w2.alloc _ = wb at *
  rintro e w3 ⟨m, rfl, hm, hc1, he1⟩
  replace O := hid (O.out.eff he1 (by omega))
  replace D := hid (D.out.eff he1 (by omega))
  replace HE := hid (HE.out.trans he1)
  replace G1 := hid (G1.out.eff he1 hClt)
  replace G2 := hid (G2.out.eff he1 hClt)
  replace HC := hid hc1
  have hm8 : m ≤ 8 := by omega
  have hm0 : 0 ≤ m := hm.1
  clear hc1 he1 hm
  go_wp2_with fail
  go_loopw [6] (fun i wr => ∃ (k : Nat) (p1 p2 : Option Addr) (l1 l2 : Nat) (S : List ByteArray) (L : List (Int × ByteArray)), k ≤ 8 ∧ i = .int .i64 k ∧ Hid (S.length ≤ 8 ∧ 1 ≤ S.length ∧ L.length ≤ k) ∧ Hid (Blk wr w.heap.size [.slice none 0 0, .slice none 0 0] 27) ∧ Hid (Blk wr DB [.slice p1 S.length l1, .slice p2 L.length l2] 27) ∧ Hid (OwG wr w.heap.size 9 1 (.slice p1 S.length l1) S.length (encS S)) ∧ Hid (OwG wr w.heap.size 43 2 (.slice p2 L.length l2) L.length (encW L)) ∧ Hid (Cur w0 ao n cap C wr) ∧ Hid (Eff C w wr)) (fun i _ => (m - intOf i).toNat)
  case atStart => exact ⟨0, _, _, _, _, _, _, by omega, rfl, ⟨hS1, hS2, hL1⟩, O.out, D.out, G1.out, G2.out, HC.out, HE.out⟩
  case round =>
    clear O D G1 G2 HC HE hS1 hS2 hL1
    obtain ⟨k, p1, p2, l1, l2, S, L, hk, rfl, hSL, O, D, G1, G2, HC, HE⟩ := hrel
    have q0 := D.out.cell (i := 0) rfl
    have q1 := D.out.cell (i := 1) rfl
    by_cases hlt : (k : Int) < m
    · go_upto_region 6 with fail
      have HLS := hid (show S.length ≤ 1048576 by have := hSL.out.1; omega)
      have HLL := hid (show L.length ≤ 1048576 by have := hSL.out.2.2; omega)
      have hM : C < wr.heap.size := HC.out.lt
      obtain ⟨M, hMM⟩ : ∃ M, M = wr.heap.size := ⟨_, rfl⟩
      have hCM : C < M := by omega
      have HDV := hid (show DP wr (.agg #[.slice p1 S.length l1, .slice p2 L.length l2]) S L from (show DO wr w.heap.size _ S L from ⟨_, _, rfl, G1.out, G2.out⟩).dp)
      have hDBne : DB ≠ C := by omega
      go_cut [7] from 23 to 36 (fun s wx => ∃ (N : Nat) (v1 v2 : Value) (L' : List (Int × ByteArray)), s = .pointer (some ⟨N, 0, none⟩) ∧ M ≤ N ∧ Blk wx N [v1, v2] 27 ∧ OwG wx M 9 1 v1 S.length (encS S) ∧ OwG wx M 43 2 v2 L'.length (encW L') ∧ L'.length ≤ L.length + 1 ∧ Eff C wr wx ∧ Cur w0 ao n cap C wx)
      case first =>
        refine wp_region_any (by kernel_rfl) ?_
        refine wpAny_inv (fun listed ac wq => ∃ u : Nat → Value, ac = { tmps := #[.pointer (some ⟨C, 0, none⟩), undef, .pointer (some ⟨w.heap.size, 0, none⟩), .pointer (some ⟨DB, 0, none⟩), .bool okb, .int .i64 m, .int .i64 k, u 7, u 8, .tuple #[.agg #[.slice xa S0.length xc, .slice ya L0.length yc], .bool okb], .pointer (some ⟨C, 0, none⟩), .int .i64 x, .int .i64 (1 + x), .tuple #[.agg #[.slice xa S0.length xc, .slice ya L0.length yc], .bool okb], .agg #[.slice xa S0.length xc, .slice ya L0.length yc], .bool okb, .pointer (some ⟨C, 0, none⟩), .int .i64 m, .int .i64 k, .int .i64 m, .bool true, u21, u22, u 23, u 24, u 25, u 26, u 27, u 28, u 29, u 30, u 31, u 32, u 33, u 34, u 35, u 36, u37, u38, u39, u40, u41, undef, undef, undef, undef, undef, undef, undef, undef, undef, undef, undef, undef, undef, undef, undef, undef, undef, undef, undef, undef, undef, undef, undef, undef, undef, undef, undef], defers := [] } ∧ (Eff C wr wq ∧ Cur w0 ao n cap C wq) ∧ Facts 17 (fun j => VD S L (.slice p1 S.length l1) (.slice p2 L.length l2) C DB M (Kd j)) Dd listed u wq) ?hpre ?hstep ?hend _ _ _ _ rfl (by decide) (fun j oj _ hl => absurd hl (by simp [Array.getD])) ⟨fun k => if k = 7 then u7 else if k = 8 then u8 else if k = 23 then u23 else if k = 24 then u24 else if k = 25 then u25 else if k = 26 then u26 else if k = 27 then u27 else if k = 28 then u28 else if k = 29 then u29 else if k = 30 then u30 else if k = 31 then u31 else if k = 32 then u32 else if k = 33 then u33 else if k = 34 then u34 else if k = 35 then u35 else if k = 36 then u36 else undef, rfl, ⟨(Eff.refl _ _).drew, HC.out.below (Below.refl _ _).drew⟩, fun j hj hl => absurd hl (by simp [Array.getD])⟩
        case hpre => exact pre_of (by kernel_rfl)
        case hend =>
          rintro listed ac wq hall ⟨u, rfl, ⟨he, hc⟩, hF⟩
          obtain ⟨N, v1, v2, e1, hN, hbk, L', h1, h2, h3⟩ : ∃ N v1 v2, u 7 = .pointer (some ⟨N, 0, none⟩) ∧ M ≤ N ∧ Blk wq N [v1, v2] 27 ∧ ∃ L' : List (Int × ByteArray), OwG wq M 9 1 v1 S.length (encS S) ∧ OwG wq M 43 2 v2 L'.length (encW L') ∧ L'.length ≤ L.length + 1 := hF 15 (by decide) (hall 15 (by decide))
          go_wp2_with fail
          go_meet
          exact ⟨N, v1, v2, L', e1, hN, hbk, h1, h2, h3, he, hc⟩
        case hstep =>
          rintro listed ac wq i o hszl ⟨u, rfl, ⟨he, hc⟩, hF⟩ ho hall hun hcl
          have hin : i < 17 := (Array.getElem?_eq_some_iff.1 ho).1
          have DQ := D.out.eff he hDBne
          have c0 := DQ.cell (i := 0) rfl
          have c1 := DQ.cell (i := 1) rfl
          have HDQ := hid (show DP wq (.agg #[.slice p1 S.length l1, .slice p2 L.length l2]) S L from (show DO wq w.heap.size _ S L from ⟨_, _, rfl, G1.out.eff he hClt, G2.out.eff he hClt⟩).dp)
          have hszq : M ≤ wq.heap.size := by rw [hMM]; exact he.size
          have ST : Hid (i ≠ 14 → i ≠ 15 → ∀ (wz : World) (v : Value), Eff C wq wz → Cur w0 ao n cap C wz → (fun j => VD S L (.slice p1 S.length l1) (.slice p2 L.length l2) C DB M (Kd j)) i v wz → (Eff C wr wz ∧ Cur w0 ao n cap C wz) ∧ Facts 17 (fun j => VD S L (.slice p1 S.length l1) (.slice p2 L.length l2) C DB M (Kd j)) Dd (listed.setIfInBounds i true) (upd u (Dd i) v) wz) := fun h1 h2 wz v hez hcz hv => ⟨⟨he.trans hez, hcz⟩, hF.step i v (fun j hj hne _ => Dd_ne ⟨i, hin⟩ ⟨j, hj⟩ (fun e => hne (congrArg Fin.val e)) h1 h2) (fun j x _ h => VD.eff hCM hez _ _ h) hv⟩
          clear DQ
          obtain rfl | rfl | rfl | rfl | rfl | rfl | rfl | rfl | rfl | rfl | rfl | rfl | rfl | rfl | rfl | rfl | rfl : i = 0 ∨ i = 1 ∨ i = 2 ∨ i = 3 ∨ i = 4 ∨ i = 5 ∨ i = 6 ∨ i = 7 ∨ i = 8 ∨ i = 9 ∨ i = 10 ∨ i = 11 ∨ i = 12 ∨ i = 13 ∨ i = 14 ∨ i = 15 ∨ i = 16 := by omega
          · cases ho
            refine wpOp_step rfl (fun K hK => ?_)
            go_simp
            refine hK _ _ ⟨upd u 24 (.agg #[.slice p1 S.length l1, .slice p2 L.length l2]), ?_, ST.out (by decide) (by decide) _ _ (Eff.refl _ _) hc rfl⟩
            simp [upd]
          · cases ho
            refine wpOp_step rfl (fun K hK => ?_)
            go_simp
            refine hK _ _ ⟨upd u 25 (.pointer (some ⟨C, 0, none⟩)), ?_, ST.out (by decide) (by decide) _ _ (Eff.refl _ _) hc rfl⟩
            simp [upd]
          · cases ho
            refine wpOp_step rfl (fun K hK => ?_)
            go_simp
            refine hK _ _ ⟨upd u 26 (.pointer (some ⟨DB, 0, none⟩)), ?_, ST.out (by decide) (by decide) _ _ (Eff.refl _ _) hc rfl⟩
            simp [upd]
          · cases ho
            have f2 : u 26 = .pointer (some ⟨DB, 0, none⟩) := hF 2 (by decide) (hall ⟨2, .data⟩ (by simp) rfl)
            refine wpOp_step rfl (fun K hK => ?_)
            simp only [f2]
            go_simp
            refine hK _ _ ⟨upd u 27 (.slice p1 S.length l1), ?_, ST.out (by decide) (by decide) _ _ (Eff.refl _ _) hc rfl⟩
            simp [upd, f2]
          · cases ho
            have f3 : u 27 = .slice p1 S.length l1 := hF 3 (by decide) (hall ⟨3, .data⟩ (by simp) rfl)
            refine wpOp_step rfl (fun K hK => ?_)
            simp only [f3]
            go_simp
            refine hK _ _ ⟨upd u 28 (.int .i64 S.length), ?_, ST.out (by decide) (by decide) _ _ (Eff.refl _ _) hc rfl⟩
            simp [upd, f3]
          · cases ho
            have f1 : u 25 = .pointer (some ⟨C, 0, none⟩) := hF 1 (by decide) (hall ⟨1, .data⟩ (by simp) rfl)
            have f4 : u 28 = .int .i64 S.length := hF 4 (by decide) (hall ⟨4, .data⟩ (by simp) rfl)
            refine wpOp_step rfl (fun K hK => ?_)
            simp only [f1, f4]
            go_simp
            go_wp2_with (go_at_call 32; refine (below_any w0 ao n cap C zs _ wq HCO.out hc).mono ?_; rintro e wz ⟨z, rfl, hz, hcz, hez⟩)
            first | refine hK _ _ ⟨upd u 29 (.int .i64 z), ?_, ST.out (by decide) (by decide) _ _ hez hcz ⟨z, rfl⟩⟩ | refine ⟨upd u 29 (.int .i64 z), ?_, ST.out (by decide) (by decide) _ _ hez hcz ⟨z, rfl⟩⟩
            simp [upd, f1, f4]
          · cases ho
            refine wpOp_step rfl (fun K hK => ?_)
            go_simp
            refine hK _ _ ⟨upd u 30 (.pointer (some ⟨C, 0, none⟩)), ?_, ST.out (by decide) (by decide) _ _ (Eff.refl _ _) hc rfl⟩
            simp [upd]
          · cases ho
            refine wpOp_step rfl (fun K hK => ?_)
            go_simp
            refine hK _ _ ⟨upd u 31 (.pointer (some ⟨C, 0, none⟩)), ?_, ST.out (by decide) (by decide) _ _ (Eff.refl _ _) hc rfl⟩
            simp [upd]
          · cases ho
            have f7 : u 31 = .pointer (some ⟨C, 0, none⟩) := hF 7 (by decide) (hall ⟨7, .data⟩ (by simp) rfl)
            refine wpOp_step rfl (fun K hK => ?_)
            simp only [f7]
            go_simp
            go_wp2_with (go_at_call 32; refine (below_any w0 ao n cap C zs 6 wq HCO.out hc).mono ?_; rintro e wz ⟨z, rfl, hz, hcz, hez⟩; obtain ⟨zn, rfl⟩ : ∃ zn : Nat, z = zn := ⟨z.toNat, by omega⟩)
            first | refine hK _ _ ⟨upd u 32 (.int .i64 zn), ?_, ST.out (by decide) (by decide) _ _ hez hcz ⟨zn, rfl, by omega⟩⟩ | refine ⟨upd u 32 (.int .i64 zn), ?_, ST.out (by decide) (by decide) _ _ hez hcz ⟨zn, rfl, by omega⟩⟩
            simp [upd, f7]
          · cases ho
            have f6 : u 30 = .pointer (some ⟨C, 0, none⟩) := hF 6 (by decide) (hall ⟨6, .data⟩ (by simp) rfl)
            obtain ⟨x8, f8, hx8⟩ : ∃ x : Nat, u 32 = .int .i64 x ∧ x ≤ 1000000 := hF 8 (by decide) (hall ⟨8, .data⟩ (by simp) rfl)
            refine wpOp_step rfl (fun K hK => ?_)
            simp only [f6, f8]
            go_simp
            go_wp2_with (go_at_call 34; refine (any_any w0 ao n cap C zs x8 wq hx8 HCO.out hc).mono ?_; rintro e wz ⟨s, rfl, hs, hcz, hez⟩)
            first | refine hK _ _ ⟨upd u 33 (.string s), ?_, ST.out (by decide) (by decide) _ _ hez hcz ⟨s, rfl⟩⟩ | refine ⟨upd u 33 (.string s), ?_, ST.out (by decide) (by decide) _ _ hez hcz ⟨s, rfl⟩⟩
            simp [upd, f6, f8]
          · cases ho
            have f0 : u 24 = .agg #[.slice p1 S.length l1, .slice p2 L.length l2] := hF 0 (by decide) (hall ⟨0, .data⟩ (by simp) rfl)
            obtain ⟨x5, f5⟩ : ∃ x : Int, u 29 = .int .i64 x := hF 5 (by decide) (hall ⟨5, .data⟩ (by simp) rfl)
            obtain ⟨s9, f9⟩ : ∃ s, u 33 = .string s := hF 9 (by decide) (hall ⟨9, .data⟩ (by simp) rfl)
            refine wpOp_step rfl (fun K hK => ?_)
            simp only [f0, f5, f9]
            go_simp
            go_wp2_with (go_at_call 12; refine (spec_write _ S L x5 s9 wq HLS.out HLL.out HDQ.out).mono ?_; rintro e wz ⟨v', rfl, ⟨v1, v2, rfl, o1, o2⟩, hbz⟩; have hez : Eff C wq wz := ⟨hbz.os, hbz.tape, hbz.output, hbz.size, fun k hk _ => hbz.block k hk⟩; have hlw := wrL_len S L x5 s9)
            first | refine hK _ _ ⟨upd u 34 (.tuple #[.agg #[v1, v2], .bool (wrB S L x5 s9)]), ?_, ST.out (by decide) (by decide) _ _ hez (hc.below hbz) ⟨_, _, _, rfl, _, o1.mono hszq, o2.mono hszq, hlw⟩⟩ | refine ⟨upd u 34 (.tuple #[.agg #[v1, v2], .bool (wrB S L x5 s9)]), ?_, ST.out (by decide) (by decide) _ _ hez (hc.below hbz) ⟨_, _, _, rfl, _, o1.mono hszq, o2.mono hszq, hlw⟩⟩
            simp [upd, f0, f5, f9]
          · cases ho
            obtain ⟨v1, v2, b10, f10, L', o1, o2, o3⟩ : ∃ v1 v2 b, u 34 = .tuple #[.agg #[v1, v2], .bool b] ∧ ∃ L' : List (Int × ByteArray), OwG wq M 9 1 v1 S.length (encS S) ∧ OwG wq M 43 2 v2 L'.length (encW L') ∧ L'.length ≤ L.length + 1 := hF 10 (by decide) (hall ⟨10, .data⟩ (by simp) rfl)
            obtain ⟨a1, b1, rfl, _, _⟩ := o1.shape
            obtain ⟨a2, b2, rfl, _, _⟩ := o2.shape
            refine wpOp_step rfl (fun K hK => ?_)
            simp only [f10]
            go_simp
            refine hK _ _ ⟨upd u 23 (.tuple #[.agg #[.slice a1 S.length b1, .slice a2 L'.length b2], .bool b10]), ?_, ST.out (by decide) (by decide) _ _ (Eff.refl _ _) hc ⟨_, _, _, rfl, _, o1, o2, o3⟩⟩
            simp [upd, f10]
          · cases ho
            obtain ⟨v1, v2, b11, f11, L', o1, o2, o3⟩ : ∃ v1 v2 b, u 23 = .tuple #[.agg #[v1, v2], .bool b] ∧ ∃ L' : List (Int × ByteArray), OwG wq M 9 1 v1 S.length (encS S) ∧ OwG wq M 43 2 v2 L'.length (encW L') ∧ L'.length ≤ L.length + 1 := hF 11 (by decide) (hall ⟨11, .data⟩ (by simp) rfl)
            obtain ⟨a1, b1, rfl, _, _⟩ := o1.shape
            obtain ⟨a2, b2, rfl, _, _⟩ := o2.shape
            refine wpOp_step rfl (fun K hK => ?_)
            simp only [f11]
            go_simp
            refine hK _ _ ⟨upd u 35 (.agg #[.slice a1 S.length b1, .slice a2 L'.length b2]), ?_, ST.out (by decide) (by decide) _ _ (Eff.refl _ _) hc ⟨_, _, rfl, _, o1, o2, o3⟩⟩
            simp [upd, f11]
          · cases ho
            obtain ⟨v1, v2, b11, f11, L', o1, o2, o3⟩ : ∃ v1 v2 b, u 23 = .tuple #[.agg #[v1, v2], .bool b] ∧ ∃ L' : List (Int × ByteArray), OwG wq M 9 1 v1 S.length (encS S) ∧ OwG wq M 43 2 v2 L'.length (encW L') ∧ L'.length ≤ L.length + 1 := hF 11 (by decide) (hall ⟨11, .data⟩ (by simp) rfl)
            obtain ⟨a1, b1, rfl, _, _⟩ := o1.shape
            obtain ⟨a2, b2, rfl, _, _⟩ := o2.shape
            refine wpOp_step rfl (fun K hK => ?_)
            simp only [f11]
            go_simp
            refine hK _ _ ⟨upd u 36 (.bool b11), ?_, ST.out (by decide) (by decide) _ _ (Eff.refl _ _) hc ⟨_, rfl⟩⟩
            simp [upd, f11]
          · cases ho
            refine wpOp_step rfl (fun K hK => ?_)
            go_simp
            have hbz := (Below.refl wq.heap.size wq).alloc (Nat.le_refl _) (.cells #[.slice none 0 0, .slice none 0 0] 27)
            have hez : Eff C wq (wq.alloc (.cells #[.slice none 0 0, .slice none 0 0] 27)) := (Eff.refl _ _).alloc _
            have hns : listed.getD 15 false = false := by
              cases hl : listed.getD 15 false with
              | false => rfl
              | true =>
                have := hcl 15 _ rfl hl ⟨14, .data⟩ (by simp) rfl
                simp only at this
                have h9 : listed.getD 14 true = true := by
                  simp only [Array.getD] at this ⊢
                  split at this <;> simp_all
                rw [h9] at hun
                cases hun
            refine hK _ _ ⟨upd u 7 (.pointer (some ⟨wq.heap.size, 0, none⟩)), ?_, ⟨he.trans hez, hc.below hbz⟩, hF.step 14 _ (fun j hj hne hl => Dd_ne14 ⟨j, hj⟩ hne (fun e => by have e' : j = 15 := e; subst e'; rw [hns] at hl; cases hl)) (fun j x _ h => VD.eff hCM hez _ _ h) ⟨_, _, _, rfl, hszq, Blk.new wq [.slice none 0 0, .slice none 0 0] 27⟩⟩
            simp [upd]
          · cases ho
            obtain ⟨N, y1, y2, f14, hN, hbk⟩ : ∃ N x y, u 7 = .pointer (some ⟨N, 0, none⟩) ∧ M ≤ N ∧ Blk wq N [x, y] 27 := hF 14 (by decide) (hall ⟨14, .data⟩ (by simp) rfl)
            obtain ⟨v1, v2, f12, L', o1, o2, o3⟩ : ∃ v1 v2, u 35 = .agg #[v1, v2] ∧ ∃ L' : List (Int × ByteArray), OwG wq M 9 1 v1 S.length (encS S) ∧ OwG wq M 43 2 v2 L'.length (encW L') ∧ L'.length ≤ L.length + 1 := hF 12 (by decide) (hall ⟨12, .data⟩ (by simp) rfl)
            obtain ⟨a1, b1, rfl, _, _⟩ := o1.shape
            obtain ⟨a2, b2, rfl, _, _⟩ := o2.shape
            have k0 := hbk.cell (i := 0) rfl
            have k1 := hbk.cell (i := 1) rfl
            have l0 := hbk.free 0
            have l1' := hbk.free 1
            have bk1 := hbk.set 0 (.slice a1 S.length b1)
            have bk2 := bk1.set 1 (.slice a2 L'.length b2)
            have HF : Hid (Facts 17 (fun j => VD S L (.slice p1 S.length l1) (.slice p2 L.length l2) C DB M (Kd j)) Dd (listed.setIfInBounds 15 true) u ((wq.setCell ⟨N, 0, none⟩ (.slice a1 S.length b1)).setCell ⟨N, 1, none⟩ (.slice a2 L'.length b2))) := hid (by
              intro j hj hl
              by_cases e : j = 15
              · subst e
                refine ⟨N, _, _, f14, hN, bk2, L', ?_, ?_, o3⟩
                · exact (o1.setCell_other (fun e => o1.tag hbk (by decide) e.symm) _).setCell_other (fun e => (o1.tag hbk (by decide)) e.symm) _
                · exact (o2.setCell_other (fun e => o2.tag hbk (by decide) e.symm) _).setCell_other (fun e => (o2.tag hbk (by decide)) e.symm) _
              · rw [getD_set_ne false (fun h => e h.symm)] at hl
                have hk14 : Kd j = 14 → u (Dd j) = .pointer (some ⟨N, 0, none⟩) := fun h => by have e4 : j = 14 := Kd_14 ⟨j, hj⟩ h; subst e4; exact f14
                exact VD.set bk1 1 _ (by decide) _ _ (Kd_ne ⟨j, hj⟩ e) hk14 (VD.set hbk 0 _ (by decide) _ _ (Kd_ne ⟨j, hj⟩ e) hk14 (hF j hj hl)))
            have HEZ : Hid (Eff C wr ((wq.setCell ⟨N, 0, none⟩ (.slice a1 S.length b1)).setCell ⟨N, 1, none⟩ (.slice a2 L'.length b2))) := hid ⟨he.os, he.tape, he.output, by have := he.size; simpa [World.setCell] using this, fun q hq hne => ((Below.heap_setCell _ _ _ _ (by show q ≠ N; omega)).trans (Below.heap_setCell _ _ _ _ (by show q ≠ N; omega))).trans (he.block q hq hne)⟩
            have HCZ : Hid (Cur w0 ao n cap C ((wq.setCell ⟨N, 0, none⟩ (.slice a1 S.length b1)).setCell ⟨N, 1, none⟩ (.slice a2 L'.length b2))) := hid (hc.belowB hCM (((Below.refl M wq).setCell (p := ⟨N, 0, none⟩) hN _).setCell (p := ⟨N, 1, none⟩) hN _))
            clear bk1 bk2 ST
            refine wpOp_step rfl (fun K hK => ?_)
            simp only [f14, f12]
            go_simp
            refine hK _ _ ⟨u, ?_, ⟨HEZ.out, HCZ.out⟩, HF.out⟩
            simp [f14, f12]
          · cases ho
            obtain ⟨b13, f13⟩ : ∃ b, u 36 = .bool b := hF 13 (by decide) (hall ⟨13, .data⟩ (by simp) rfl)
            refine wpOp_step rfl (fun K hK => ?_)
            simp only [f13]
            go_simp
            refine hK _ _ ⟨upd u 8 (.bool b13), ?_, ST.out (by decide) (by decide) _ _ (Eff.refl _ _) hc ⟨_, rfl⟩⟩
            simp [upd, f13]
      case rest =>
        obtain ⟨N, v1, v2, L', rfl, hN, hbk, o1, o2, o3, he, hc⟩ := hcut
        rename World => wx
        obtain ⟨a1, b1, rfl, _, _⟩ := o1.shape
        obtain ⟨a2, b2, rfl, _, _⟩ := o2.shape
        have hMw : w.heap.size ≤ M := by have := HE.out.size; omega
        have hDBM : DB < M := by have := D.out.lt; omega
        replace O := hid (O.out.eff he (by omega))
        have DX := D.out.eff he hDBne
        have HEX := HE.out.trans he
        clear q0 q1 D G1 G2 HC HE HDV
        have n0 := hbk.cell (i := 0) rfl
        have n1 := hbk.cell (i := 1) rfl
        have d0 := DX.cell (i := 0) rfl
        have d1 := DX.cell (i := 1) rfl
        have g0 := DX.free 0
        have g1 := DX.free 1
        have D2 := hid ((DX.set 0 (.slice a1 S.length b1)).set 1 (.slice a2 L'.length b2))
        have H1 := hid (((o1.setCell_below (a := ⟨DB, 0, none⟩) hDBM (.slice a1 S.length b1)).setCell_below (a := ⟨DB, 1, none⟩) hDBM (.slice a2 L'.length b2)).mono hMw)
        have H2 := hid (((o2.setCell_below (a := ⟨DB, 0, none⟩) hDBM (.slice a1 S.length b1)).setCell_below (a := ⟨DB, 1, none⟩) hDBM (.slice a2 L'.length b2)).mono hMw)
        have O2 := hid ((O.out.other (a := ⟨DB, 0, none⟩) (by show w.heap.size ≠ DB; omega) (.slice a1 S.length b1)).other (a := ⟨DB, 1, none⟩) (by show w.heap.size ≠ DB; omega) (.slice a2 L'.length b2))
        have C2 := hid (hc.belowB (B := C + 1) (Nat.lt_succ_self _) (((Below.refl (C + 1) wx).setCell (p := ⟨DB, 0, none⟩) (by show C + 1 ≤ DB; omega) (.slice a1 S.length b1)).setCell (p := ⟨DB, 1, none⟩) (by show C + 1 ≤ DB; omega) (.slice a2 L'.length b2)))
        have E2 : Hid (Eff C w ((wx.setCell ⟨DB, 0, none⟩ (.slice a1 S.length b1)).setCell ⟨DB, 1, none⟩ (.slice a2 L'.length b2))) := hid ⟨HEX.os, HEX.tape, HEX.output, by have := HEX.size; simpa [World.setCell] using this, fun q hq hne => ((Below.heap_setCell _ _ _ _ (by show q ≠ DB; omega)).trans (Below.heap_setCell _ _ _ _ (by show q ≠ DB; omega))).trans (HEX.block q hq hne)⟩
        clear O DX HEX hbk o1 o2 he hc
        go_wp2_with fail
        clear n0 n1 d0 d1 g0 g1
        refine (once_any w0 ao n cap C zs 6 _ HCO.out C2.out).mono ?_
        generalize (wx.setCell _ _).setCell _ _ = wy at *
        rintro e w5 ⟨bb, rfl, hc5, he5⟩
        replace O2 := hid (O2.out.eff he5 (by omega))
        replace D2 := hid (D2.out.eff he5 hDBne)
        replace E2 := hid (E2.out.trans he5)
        replace H1 := hid (H1.out.eff he5 hClt)
        replace H2 := hid (H2.out.eff he5 hClt)
        replace C2 := hid hc5
        clear hc5 he5
        have HLL' := hid (show L'.length ≤ 1048576 by have := HLL.out; have := hSL.out.2.2; omega)
        cases bb with
        | false =>
          go_wp2_with fail
          go_roundw
          case rel => exact ⟨k + 1, _, _, _, _, S, L', by omega, by go_num, ⟨hSL.out.1, hSL.out.2.1, by have := hSL.out.2.2; omega⟩, O2.out, D2.out, H1.out, H2.out, C2.out, E2.out⟩
          case measure => simp [intOf]; omega
        | true =>
          have q0 := D2.out.cell (i := 0) rfl
          have q1 := D2.out.cell (i := 1) rfl
          have HSY := hid (spec_sync (.agg #[.slice a1 S.length b1, .slice a2 L'.length b2]) S L' w5 HLS.out HLL'.out (show DO w5 w.heap.size _ S L' from ⟨_, _, rfl, H1.out, H2.out⟩).dp)
          have HB1 := hid (bhS_len S L' kpAll)
          have HB2 := hid (bhL_len S L')
          generalize bhS S L' kpAll = RS at *
          generalize bhL S L' = RL at *
          go_wp2_with fail
          refine HSY.out.mono ?_
          clear HSY
          rintro e w6 ⟨v6, rfl, ⟨v3, v4, rfl, o1, o2⟩, hb6⟩
          obtain ⟨a3, b3, rfl, _, _⟩ := o1.shape
          obtain ⟨a4, b4, rfl, _, _⟩ := o2.shape
          have hlt5 := D2.out.lt
          have hsz5 : w.heap.size ≤ w5.heap.size := E2.out.size
          have DX := D2.out.below hb6 hlt5
          have HEX := E2.out.trans ⟨hb6.os, hb6.tape, hb6.output, hb6.size, fun k hk _ => hb6.block k hk⟩
          have hC6 := C2.out.below hb6
          have O3 := O2.out.below hb6 O2.out.lt
          clear q0 q1
          have d0 := DX.cell (i := 0) rfl
          have d1 := DX.cell (i := 1) rfl
          have g0 := DX.free 0
          have g1 := DX.free 1
          have D4 := hid ((DX.set 0 (.slice a3 RS.length b3)).set 1 (.slice a4 RL.length b4))
          have H5 := hid (((o1.setCell_below (a := ⟨DB, 0, none⟩) hlt5 (.slice a3 RS.length b3)).setCell_below (a := ⟨DB, 1, none⟩) hlt5 (.slice a4 RL.length b4)).mono hsz5)
          have H6 := hid (((o2.setCell_below (a := ⟨DB, 0, none⟩) hlt5 (.slice a3 RS.length b3)).setCell_below (a := ⟨DB, 1, none⟩) hlt5 (.slice a4 RL.length b4)).mono hsz5)
          have O4 := hid ((O3.other (a := ⟨DB, 0, none⟩) (by show w.heap.size ≠ DB; omega) (.slice a3 RS.length b3)).other (a := ⟨DB, 1, none⟩) (by show w.heap.size ≠ DB; omega) (.slice a4 RL.length b4))
          have C4 := hid (hC6.belowB (B := C + 1) (Nat.lt_succ_self _) (((Below.refl (C + 1) w6).setCell (p := ⟨DB, 0, none⟩) (by show C + 1 ≤ DB; omega) (.slice a3 RS.length b3)).setCell (p := ⟨DB, 1, none⟩) (by show C + 1 ≤ DB; omega) (.slice a4 RL.length b4)))
          have E4 : Hid (Eff C w ((w6.setCell ⟨DB, 0, none⟩ (.slice a3 RS.length b3)).setCell ⟨DB, 1, none⟩ (.slice a4 RL.length b4))) := hid ⟨HEX.os, HEX.tape, HEX.output, by have := HEX.size; simpa [World.setCell] using this, fun q hq hne => ((Below.heap_setCell _ _ _ _ (by show q ≠ DB; omega)).trans (Below.heap_setCell _ _ _ _ (by show q ≠ DB; omega))).trans (HEX.block q hq hne)⟩
          clear DX HEX hC6 O3 o1 o2 hb6
          go_wp2_with fail
          go_roundw
          case rel => exact ⟨k + 1, _, _, _, _, RS, RL, by omega, by go_num, ⟨by rw [HB1.out]; exact hSL.out.1, by rw [HB1.out]; exact hSL.out.2.1, by have := hSL.out.2.2; have := HB2.out; omega⟩, O4.out, D4.out, H5.out, H6.out, C4.out, E4.out⟩
          case measure => simp [intOf]; omega
    · have hkm : ¬ (k : Int) < m := hlt
      clear q0 q1
      go_wp2_with fail
      refine (below_any w0 ao n cap C zs 20 _ HCO.out HC.out).mono ?_
      rintro e w7 ⟨t, rfl, ht, hc7, he7⟩
      have hDBne : DB ≠ C := by omega
      replace O := hid (O.out.eff he7 (by omega))
      replace D := hid (D.out.eff he7 hDBne)
      replace HE := hid (HE.out.trans he7)
      replace G1 := hid (G1.out.eff he7 hClt)
      replace G2 := hid (G2.out.eff he7 hClt)
      replace HC := hid hc7
      have hL10 : L.length ≤ 8 := by have := hSL.out.2.2; omega
      clear hc7 he7 ht
      have q0 := D.out.cell (i := 0) rfl
      have q1 := D.out.cell (i := 1) rfl
      by_cases ht0 : t = 0
      · subst ht0
        go_upto_region 12 with fail
        obtain ⟨M, hMM⟩ : ∃ M, M = w7.heap.size := ⟨_, rfl⟩
        have hCM : C < M := by have := HC.out.lt; omega
        have hDBM : DB < M := by have := D.out.lt; omega
        have hwM : w.heap.size ≤ M := by have := HE.out.size; omega
        have HRW := hid (show ∀ g, (Value.slice p2 L.length l2).ownBlock = some g → w.heap.size ≤ g ∧ g < M from fun g e => by have := G2.out.2.lt g e; omega)
        have hL9 : L.length < 1000000000 := by omega
        refine wp_region_any (by kernel_rfl) ?_
        refine wpAny_inv (fun listed ac wq => ∃ u : Nat → Value, ac = { tmps := #[.pointer (some ⟨C, 0, none⟩), undef, .pointer (some ⟨w.heap.size, 0, none⟩), .pointer (some ⟨DB, 0, none⟩), .bool okb, .int .i64 m, .int .i64 k, u7, u8, .tuple #[.agg #[.slice xa S0.length xc, .slice ya L0.length yc], .bool okb], .pointer (some ⟨C, 0, none⟩), .int .i64 x, .int .i64 (1 + x), .tuple #[.agg #[.slice xa S0.length xc, .slice ya L0.length yc], .bool okb], .agg #[.slice xa S0.length xc, .slice ya L0.length yc], .bool okb, .pointer (some ⟨C, 0, none⟩), .int .i64 m, .int .i64 k, .int .i64 m, .bool false, u21, u22, u23, u24, u25, u26, u27, u28, u29, u30, u31, u32, u33, u34, u35, u36, u37, u38, u39, u40, u41, .pointer (some ⟨C, 0, none⟩), .int .i64 0, .bool true, .bool true, u 46, u 47, u 48, u 49, u 50, u 51, u 52, u 53, u 54, u 55, u 56, u 57, undef, undef, undef, undef, undef, undef, undef, undef, undef, undef, undef], defers := [] } ∧ (Eff C w wq ∧ Cur w0 ao n cap C wq ∧ Blk wq w.heap.size [.slice none 0 0, .slice none 0 0] 27 ∧ OwG wq w.heap.size 9 1 (.slice p1 S.length l1) S.length (encS S) ∧ M ≤ wq.heap.size ∧ (listed.getD 10 false = false → OwG wq w.heap.size 43 2 (.slice p2 L.length l2) L.length (encW L)) ∧ (listed.getD 12 false = false → Blk wq DB [.slice p1 S.length l1, .slice p2 L.length l2] 27)) ∧ Facts 13 (fun j => VE S L (.slice p1 S.length l1) (.slice p2 L.length l2) w.heap.size C DB M j) De listed u wq) ?hpre ?hstep ?hend _ _ _ _ rfl (by decide) (fun j oj _ hl => absurd hl (by simp [Array.getD])) ⟨fun _ => undef, rfl, ⟨HE.out.drew, HC.out.below (Below.refl _ _).drew, O.out, G1.out, by rw [hMM]; exact Nat.le_refl _, fun _ => G2.out, fun _ => D.out⟩, fun j hj hl => absurd hl (by simp [Array.getD])⟩
        case hpre => exact pre_of (by kernel_rfl)
        case hstep =>
          rintro listed ac wq i o hszl ⟨u, rfl, ⟨he, hc, ho0, hg1, hsq, hg2, hdd⟩, hF⟩ ho hall hun hcl
          have hin : i < 13 := (Array.getElem?_eq_some_iff.1 ho).1
          have ST : Hid (i ≠ 10 → i ≠ 12 → listed.getD 12 false = false → ∀ (wz : World) (v : Value), Eff C wq wz → Cur w0 ao n cap C wz → (fun j => VE S L (.slice p1 S.length l1) (.slice p2 L.length l2) w.heap.size C DB M j) i v wz → (Eff C w wz ∧ Cur w0 ao n cap C wz ∧ Blk wz w.heap.size [.slice none 0 0, .slice none 0 0] 27 ∧ OwG wz w.heap.size 9 1 (.slice p1 S.length l1) S.length (encS S) ∧ M ≤ wz.heap.size ∧ ((listed.setIfInBounds i true).getD 10 false = false → OwG wz w.heap.size 43 2 (.slice p2 L.length l2) L.length (encW L)) ∧ ((listed.setIfInBounds i true).getD 12 false = false → Blk wz DB [.slice p1 S.length l1, .slice p2 L.length l2] 27)) ∧ Facts 13 (fun j => VE S L (.slice p1 S.length l1) (.slice p2 L.length l2) w.heap.size C DB M j) De (listed.setIfInBounds i true) (upd u (De i) v) wz) := fun h1 h2 h3 wz v hez hcz hv => ⟨⟨he.trans hez, hcz, ho0.eff hez (by omega), hg1.eff hez hClt, Nat.le_trans hsq hez.size, fun h => (hg2 (by rw [getD_set_ne false (fun e => h1 e)] at h; exact h)).eff hez hClt, fun _ => (hdd h3).eff hez hDBne⟩, hF.step i v (fun j hj hne _ => De_ne ⟨i, hin⟩ ⟨j, hj⟩ (fun e => hne (congrArg Fin.val e)) h1 h2) (fun j x _ h => VE.eff hCM hClt hDBne hez _ _ h) hv⟩
          obtain rfl | rfl | rfl | rfl | rfl | rfl | rfl | rfl | rfl | rfl | rfl | rfl | rfl : i = 0 ∨ i = 1 ∨ i = 2 ∨ i = 3 ∨ i = 4 ∨ i = 5 ∨ i = 6 ∨ i = 7 ∨ i = 8 ∨ i = 9 ∨ i = 10 ∨ i = 11 ∨ i = 12 := by omega
          · cases ho
            have hns : listed.getD 12 false = false := by
              cases hl : listed.getD 12 false with
              | false => rfl
              | true =>
                have := hcl 12 _ rfl hl ⟨0, .phase⟩ (by simp) rfl
                simp only at this
                have h9 : listed.getD 0 true = true := by
                  simp only [Array.getD] at this ⊢
                  split at this <;> simp_all
                rw [h9] at hun
                cases hun
            refine wpOp_step rfl (fun K hK => ?_)
            go_simp
            refine hK _ _ ⟨upd u 46 (.pointer (some ⟨DB, 1, none⟩)), ?_, ST.out (by decide) (by decide) hns _ _ (Eff.refl _ _) hc rfl⟩
            first | (simp [upd]; done) | rfl | (simp [upd]; rfl)
          · cases ho
            have hns : listed.getD 12 false = false := by
              cases hl : listed.getD 12 false with
              | false => rfl
              | true =>
                have := hcl 12 _ rfl hl ⟨1, .phase⟩ (by simp) rfl
                simp only at this
                have h9 : listed.getD 1 true = true := by
                  simp only [Array.getD] at this ⊢
                  split at this <;> simp_all
                rw [h9] at hun
                cases hun
            have dd := hdd hns
            have c0 := dd.cell (i := 0) rfl
            have c1 := dd.cell (i := 1) rfl
            have f0 : u 46 = .pointer (some ⟨DB, 1, none⟩) := hF 0 (by decide) (hall ⟨0, .data⟩ (by simp) rfl)
            refine wpOp_step rfl (fun K hK => ?_)
            simp only [f0]
            go_simp
            refine hK _ _ ⟨upd u 47 (.slice p2 L.length l2), ?_, ST.out (by decide) (by decide) hns _ _ (Eff.refl _ _) hc rfl⟩
            first | (simp [upd, f0]; done) | rfl | (simp [upd, f0]; rfl)
          · cases ho
            have hns : listed.getD 12 false = false := by
              cases hl : listed.getD 12 false with
              | false => rfl
              | true =>
                have := hcl 12 _ rfl hl ⟨2, .phase⟩ (by simp) rfl
                simp only at this
                have h9 : listed.getD 2 true = true := by
                  simp only [Array.getD] at this ⊢
                  split at this <;> simp_all
                rw [h9] at hun
                cases hun
            refine wpOp_step rfl (fun K hK => ?_)
            go_simp
            refine hK _ _ ⟨upd u 48 (.pointer (some ⟨C, 0, none⟩)), ?_, ST.out (by decide) (by decide) hns _ _ (Eff.refl _ _) hc rfl⟩
            first | (simp [upd]; done) | rfl | (simp [upd]; rfl)
          · cases ho
            have hns : listed.getD 12 false = false := by
              cases hl : listed.getD 12 false with
              | false => rfl
              | true =>
                have := hcl 12 _ rfl hl ⟨3, .phase⟩ (by simp) rfl
                simp only at this
                have h9 : listed.getD 3 true = true := by
                  simp only [Array.getD] at this ⊢
                  split at this <;> simp_all
                rw [h9] at hun
                cases hun
            refine wpOp_step rfl (fun K hK => ?_)
            go_simp
            refine hK _ _ ⟨upd u 49 (.pointer (some ⟨DB, 0, none⟩)), ?_, ST.out (by decide) (by decide) hns _ _ (Eff.refl _ _) hc rfl⟩
            first | (simp [upd]; done) | rfl | (simp [upd]; rfl)
          · cases ho
            have hns : listed.getD 12 false = false := by
              cases hl : listed.getD 12 false with
              | false => rfl
              | true =>
                have := hcl 12 _ rfl hl ⟨4, .phase⟩ (by simp) rfl
                simp only at this
                have h9 : listed.getD 4 true = true := by
                  simp only [Array.getD] at this ⊢
                  split at this <;> simp_all
                rw [h9] at hun
                cases hun
            have dd := hdd hns
            have c0 := dd.cell (i := 0) rfl
            have c1 := dd.cell (i := 1) rfl
            have f3 : u 49 = .pointer (some ⟨DB, 0, none⟩) := hF 3 (by decide) (hall ⟨3, .data⟩ (by simp) rfl)
            refine wpOp_step rfl (fun K hK => ?_)
            simp only [f3]
            go_simp
            refine hK _ _ ⟨upd u 50 (.slice p1 S.length l1), ?_, ST.out (by decide) (by decide) hns _ _ (Eff.refl _ _) hc rfl⟩
            first | (simp [upd, f3]; done) | rfl | (simp [upd, f3]; rfl)
          · cases ho
            have hns : listed.getD 12 false = false := by
              cases hl : listed.getD 12 false with
              | false => rfl
              | true =>
                have := hcl 12 _ rfl hl ⟨5, .phase⟩ (by simp) rfl
                simp only at this
                have h9 : listed.getD 5 true = true := by
                  simp only [Array.getD] at this ⊢
                  split at this <;> simp_all
                rw [h9] at hun
                cases hun
            have f4 : u 50 = .slice p1 S.length l1 := hF 4 (by decide) (hall ⟨4, .data⟩ (by simp) rfl)
            refine wpOp_step rfl (fun K hK => ?_)
            simp only [f4]
            go_simp
            refine hK _ _ ⟨upd u 51 (.int .i64 S.length), ?_, ST.out (by decide) (by decide) hns _ _ (Eff.refl _ _) hc rfl⟩
            first | (simp [upd, f4]; done) | rfl | (simp [upd, f4]; rfl)
          · cases ho
            have hns : listed.getD 12 false = false := by
              cases hl : listed.getD 12 false with
              | false => rfl
              | true =>
                have := hcl 12 _ rfl hl ⟨6, .phase⟩ (by simp) rfl
                simp only at this
                have h9 : listed.getD 6 true = true := by
                  simp only [Array.getD] at this ⊢
                  split at this <;> simp_all
                rw [h9] at hun
                cases hun
            have f5 : u 51 = .int .i64 S.length := hF 5 (by decide) (hall ⟨5, .data⟩ (by simp) rfl)
            refine wpOp_step rfl (fun K hK => ?_)
            simp only [f5]
            go_simp
            refine hK _ _ ⟨upd u 52 (.slice (some ⟨wq.heap.size, 0, none⟩) 2 2), ?_, ST.out (by decide) (by decide) hns _ _ ((Eff.refl _ _).alloc _) (hc.below ((Below.refl wq.heap.size wq).alloc (Nat.le_refl _) _)) ⟨_, rfl, hsq, Blk.new wq [.int .i64 (-1), .int .i64 S.length] 3⟩⟩
            first | (simp [upd, f5]; done) | rfl | (simp [upd, f5]; rfl)
          · cases ho
            have hns : listed.getD 12 false = false := by
              cases hl : listed.getD 12 false with
              | false => rfl
              | true =>
                have := hcl 12 _ rfl hl ⟨7, .phase⟩ (by simp) rfl
                simp only at this
                have h9 : listed.getD 7 true = true := by
                  simp only [Array.getD] at this ⊢
                  split at this <;> simp_all
                rw [h9] at hun
                cases hun
            have f2 : u 48 = .pointer (some ⟨C, 0, none⟩) := hF 2 (by decide) (hall ⟨2, .data⟩ (by simp) rfl)
            obtain ⟨g, f6, hgM, hgb⟩ : ∃ g, u 52 = .slice (some ⟨g, 0, none⟩) 2 2 ∧ M ≤ g ∧ Blk wq g [.int .i64 (-1), .int .i64 S.length] 3 := hF 6 (by decide) (hall ⟨6, .data⟩ (by simp) rfl)
            refine wpOp_step rfl (fun K hK => ?_)
            simp only [f2, f6]
            go_simp
            go_wp2_with (go_at_call 59; refine (pick_any w0 ao n cap C zs g 2 2 [-1, (S.length : Int)] wq HCO.out hc (by decide) rfl (by decide) (by omega) (fun j hj => by match j, hj with | 0, _ => exact hgb.cell rfl | 1, _ => exact hgb.cell rfl)).mono ?_; rintro e wz ⟨j, hj, rfl, hcz, hez⟩; generalize ([-1, (S.length : Int)] : List Int).getD j 0 = yv)
            first | refine hK _ _ ⟨upd u 53 (.int .i64 yv), ?_, ST.out (by decide) (by decide) hns _ _ hez hcz ⟨_, rfl⟩⟩ | refine ⟨upd u 53 (.int .i64 yv), ?_, ST.out (by decide) (by decide) hns _ _ hez hcz ⟨_, rfl⟩⟩
            simp [upd, f2, f6]
          · cases ho
            have hns : listed.getD 12 false = false := by
              cases hl : listed.getD 12 false with
              | false => rfl
              | true =>
                have := hcl 12 _ rfl hl ⟨8, .phase⟩ (by simp) rfl
                simp only at this
                have h9 : listed.getD 8 true = true := by
                  simp only [Array.getD] at this ⊢
                  split at this <;> simp_all
                rw [h9] at hun
                cases hun
            obtain ⟨y, f7⟩ : ∃ x : Int, u 53 = .int .i64 x := hF 7 (by decide) (hall ⟨7, .data⟩ (by simp) rfl)
            refine wpOp_step rfl (fun K hK => ?_)
            simp only [f7]
            go_simp
            refine hK _ _ ⟨upd u 54 (.agg #[.int .i64 y, .string ByteArray.empty]), ?_, ST.out (by decide) (by decide) hns _ _ (Eff.refl _ _) hc ⟨_, rfl⟩⟩
            first | (simp [upd, f7]; done) | rfl | (simp [upd, f7]; rfl)
          · cases ho
            have hns : listed.getD 12 false = false := by
              cases hl : listed.getD 12 false with
              | false => rfl
              | true =>
                have := hcl 12 _ rfl hl ⟨9, .phase⟩ (by simp) rfl
                simp only at this
                have h9 : listed.getD 9 true = true := by
                  simp only [Array.getD] at this ⊢
                  split at this <;> simp_all
                rw [h9] at hun
                cases hun
            obtain ⟨y, f8⟩ : ∃ x : Int, u 54 = .agg #[.int .i64 x, .string ByteArray.empty] := hF 8 (by decide) (hall ⟨8, .data⟩ (by simp) rfl)
            refine wpOp_step rfl (fun K hK => ?_)
            simp only [f8]
            go_simp
            refine hK _ _ ⟨upd u 55 (.slice (some ⟨wq.heap.size, 0, none⟩) 1 1), ?_, ST.out (by decide) (by decide) hns _ _ ((Eff.refl _ _).alloc _) (hc.below ((Below.refl wq.heap.size wq).alloc (Nat.le_refl _) _)) ⟨_, _, rfl, hsq, Blk.new wq [.int .i64 y, .string ByteArray.empty] 43⟩⟩
            first | (simp [upd, f8]; done) | rfl | (simp [upd, f8]; rfl)
          · cases ho
            have hns : listed.getD 12 false = false := by
              cases hl : listed.getD 12 false with
              | false => rfl
              | true =>
                have := hcl 12 _ rfl hl ⟨10, .phase⟩ (by simp) rfl
                simp only at this
                have h9 : listed.getD 10 true = true := by
                  simp only [Array.getD] at this ⊢
                  split at this <;> simp_all
                rw [h9] at hun
                cases hun
            have f1 : u 47 = .slice p2 L.length l2 := hF 1 (by decide) (hall ⟨1, .data⟩ (by simp) rfl)
            obtain ⟨g, y, f9, hgM, hgb⟩ : ∃ g x, u 55 = .slice (some ⟨g, 0, none⟩) 1 1 ∧ M ≤ g ∧ Blk wq g [.int .i64 x, .string ByteArray.empty] 43 := hF 9 (by decide) (hall ⟨9, .data⟩ (by simp) rfl)
            obtain ⟨ii, hi, hz0, hz1, hz2⟩ := info_parts Try.info43
            have hown := hg2 (by simp only [Array.getD] at hun ⊢; split at hun <;> simp_all)
            obtain ⟨v', wz, hrun, r1, r2, r3, r4⟩ := run_append_own_at (P := Try.prog) wq w.heap.size 25 25 43 ii (.agg #[.int .i64 0, .string ByteArray.empty]) 2 24 Try.underlying25 hi hz0 hz1 hz2 rfl (by decide) (.slice p2 L.length l2) L.length (encW L) hown.2 ⟨g, 0, none⟩ 1 1 [.int .i64 y, .string ByteArray.empty] rfl (fun j z hj => by rw [Addr.add_lit, Nat.zero_add]; exact hgb.cell hj) (one_W y ByteArray.empty) (by unfold maxLen; omega) (by omega) hown.1
            have hown2 : OwG wz w.heap.size 43 2 v' (L.length + 1) (encW (L ++ [(y, ByteArray.empty)])) := ⟨Nat.le_trans hown.1 r2.size, by rw [← encW_snoc]; exact r1⟩
            have hez : Eff C w wz := ⟨r2.os.trans he.os, r2.tape.trans he.tape, r2.output.trans he.output, Nat.le_trans he.size r2.size, fun q hq hne => (r2.block q (Nat.lt_of_lt_of_le hq he.size) (fun e => by have := (HRW.out q e.symm).1; omega)).trans (he.block q hq hne)⟩
            have hbz : Below w.heap.size wq wz := ⟨r2.os, r2.tape, r2.output, r2.size, fun q hq => r2.block q (Nat.lt_of_lt_of_le hq (by omega)) (fun e => by have := (HRW.out q e.symm).1; omega)⟩
            refine wpOp_step rfl (fun K hK => ?_)
            rw [if_pos (by simp [Region.wanted])]
            refine wp_app_run (.tmp 47) (.tmp 55) 25 rfl _ _ f1 f9 v' wz hrun ?_
            refine hK _ _ ⟨upd u 56 v', rfl, ⟨hez, hc.belowB hClt hbz, ho0.kept r2 (hown.tag ho0 (by decide)), hg1.kept r2 (hg1.apart hown (by decide)), Nat.le_trans hsq r2.size, fun h => by simp [Array.getD, hszl] at h, fun h => (hdd hns).kept r2 (hown.tag (hdd hns) (by decide))⟩, hF.step2 10 v' (fun j hj hne hl => De_ne10 ⟨j, hj⟩ hne (fun e => by have e' : j = 12 := e; subst e'; rw [hns] at hl; cases hl)) ?_ ⟨y, hown2⟩⟩
            intro j xx hj hne hl h
            exact VE.app (fun g e => (HRW.out g e).2) r2 _ _ hne (fun e => by have e' : j = 12 := e; subst e'; rw [hns] at hl; cases hl) h
          · cases ho
            have hns : listed.getD 12 false = false := by
              cases hl : listed.getD 12 false with
              | false => rfl
              | true =>
                have := hcl 12 _ rfl hl ⟨11, .data⟩ (by simp) rfl
                simp only at this
                have h9 : listed.getD 11 true = true := by
                  simp only [Array.getD] at this ⊢
                  split at this <;> simp_all
                rw [h9] at hun
                cases hun
            refine wpOp_step rfl (fun K hK => ?_)
            go_simp
            refine hK _ _ ⟨upd u 57 (.pointer (some ⟨DB, 1, none⟩)), ?_, ST.out (by decide) (by decide) hns _ _ (Eff.refl _ _) hc rfl⟩
            first | (simp [upd]; done) | rfl | (simp [upd]; rfl)
          · cases ho
            have f11 : u 57 = .pointer (some ⟨DB, 1, none⟩) := hF 11 (by decide) (hall ⟨11, .data⟩ (by simp) rfl)
            obtain ⟨y, h10⟩ : ∃ x : Int, OwG wq w.heap.size 43 2 (u 56) (L.length + 1) (encW (L ++ [(x, ByteArray.empty)])) := hF 10 (by decide) (hall ⟨10, .data⟩ (by simp) rfl)
            obtain ⟨a2, b2, f10, _, _⟩ := h10.shape
            rw [f10] at h10
            have dd := hdd (by simp only [Array.getD] at hun ⊢; split at hun <;> simp_all)
            have c1 := dd.cell (i := 1) rfl
            have l1' := dd.free 1
            have HF : Hid (Facts 13 (fun j => VE S L (.slice p1 S.length l1) (.slice p2 L.length l2) w.heap.size C DB M j) De (listed.setIfInBounds 12 true) u (wq.setCell ⟨DB, 1, none⟩ (.slice a2 (L.length + 1) b2))) := hid (by
              intro j hj hl
              by_cases e : j = 12
              · subst e
                refine ⟨y, ?_, ?_⟩
                · show OwG _ _ _ _ (u 56) _ _
                  rw [f10]
                  exact h10.setCell_other (fun e => h10.tag dd (by decide) e.symm) _
                · show Blk _ _ [_, u 56] _
                  rw [f10]
                  exact dd.set 1 _
              · rw [getD_set_ne false (fun h => e h.symm)] at hl
                exact VE.set hDBM dd _ _ _ e (hF j hj hl))
            have HEZ : Hid (Eff C w (wq.setCell ⟨DB, 1, none⟩ (.slice a2 (L.length + 1) b2))) := hid ⟨he.os, he.tape, he.output, by have := he.size; simpa [World.setCell] using this, fun q hq hne => (Below.heap_setCell _ _ _ _ (by show q ≠ DB; omega)).trans (he.block q hq hne)⟩
            have HCZ := hid (hc.belowB (B := C + 1) (Nat.lt_succ_self _) ((Below.refl (C + 1) wq).setCell (p := ⟨DB, 1, none⟩) (by show C + 1 ≤ DB; omega) (.slice a2 (L.length + 1) b2)))
            have HOZ := hid (ho0.other (a := ⟨DB, 1, none⟩) (by show w.heap.size ≠ DB; omega) (.slice a2 (L.length + 1) b2))
            have HGZ := hid (hg1.setCell_other (a := ⟨DB, 1, none⟩) (fun e => hg1.tag dd (by decide) e.symm) (.slice a2 (L.length + 1) b2))
            clear ST
            refine wpOp_step rfl (fun K hK => ?_)
            simp only [f11, f10]
            go_simp
            refine hK _ _ ⟨u, ?_, ⟨HEZ.out, HCZ.out, HOZ.out, HGZ.out, by simpa [World.setCell] using hsq, fun h => ?_, fun h => ?_⟩, HF.out⟩
            · simp [f11, f10]
            · exfalso
              have := hall ⟨10, .data⟩ (by simp) rfl
              simp only at this
              rw [getD_set_ne false (by decide)] at h
              rw [this] at h
              cases h
            · simp [Array.getD, hszl] at h
        case hend =>
          rintro listed ac wx hall ⟨u, rfl, ⟨hex, hcx, ox, o1, _, _, _⟩, hF⟩
          obtain ⟨y, o2, dx⟩ : ∃ y : Int, OwG wx w.heap.size 43 2 (u 56) (L.length + 1) (encW (L ++ [(y, ByteArray.empty)])) ∧ Blk wx DB [.slice p1 S.length l1, u 56] 27 := hF 12 (by decide) (hall 12 (by decide))
          obtain ⟨a2, b2, e2, _, _⟩ := o2.shape
          rw [e2] at o2 dx
          clear hF hall O D G1 G2 HE HC q0 q1
          have O := hid ox
          have HE := hid hex
          have HC := hid hcx
          have G1 := hid o1
          have G2 := hid o2
          have q0 := dx.cell (i := 0) rfl
          have q1 := dx.cell (i := 1) rfl
          have HLN := hid (show (L ++ [(y, ByteArray.empty)]).length = L.length + 1 by simp)
          clear dx ox hex hcx o1 o2
          have k0 := O.out.cell (i := 0) rfl
          have k1 := O.out.cell (i := 1) rfl
          have f0 := O.out.free 0
          have f1 := O.out.free 1
          have F := (O.out.set 0 (.slice p1 S.length l1)).set 1 (.slice a2 (L.length + 1) b2)
          have y0 := F.cell (i := 0) rfl
          have y1 := F.cell (i := 1) rfl
          have F1 := O.out.set 0 (.slice p1 S.length l1)
          have x1 := F1.cell (i := 1) rfl
          have z1 := F1.free 1
          clear F F1
          go_wp2_with fail
          refine bodyPost_ret (v := .agg #[.slice p1 S.length l1, .slice a2 (L.length + 1) b2]) (by simp [results, Try.results31, go_sem, y0, y1]) rfl ?_
          refine ⟨_, rfl, S, (L ++ [(y, ByteArray.empty)]), hSL.out.1, hSL.out.2.1, by rw [HLN.out]; omega, ⟨_, _, rfl, (G1.out.setCell_other (fun e => G1.out.tag O.out (by decide) e.symm) _).setCell_other (fun e => G1.out.tag O.out (by decide) e.symm) _, ((G2.out.setCell_other (fun e => G2.out.tag O.out (by decide) e.symm) _).setCell_other (fun e => G2.out.tag O.out (by decide) e.symm) _).cast HLN.out.symm rfl⟩, HC.out.belowB (B := C + 1) (Nat.lt_succ_self _) (((Below.refl (C + 1) wx).setCell (p := ⟨w.heap.size, 0, none⟩) (by show C + 1 ≤ w.heap.size; omega) _).setCell (p := ⟨w.heap.size, 1, none⟩) (by show C + 1 ≤ w.heap.size; omega) _), ⟨HE.out.os, HE.out.tape, HE.out.output, by have := HE.out.size; simpa [World.setCell] using this, fun q hq hne => ((Below.heap_setCell _ _ _ _ (by show q ≠ w.heap.size; omega)).trans (Below.heap_setCell _ _ _ _ (by show q ≠ w.heap.size; omega))).trans (HE.out.block q hq hne)⟩⟩
      · by_cases ht1 : t = 1
        · subst ht1
          go_upto_region 14 with fail
          obtain ⟨g, rfl⟩ := G1.out.addr (by have := hSL.out.2.1; omega)
          have hS0 : 0 < S.length := by have := hSL.out.2.1; omega
          have hS0' : (0 : Int) < (S.length : Int) := by omega
          have hge := (G1.out.ge).1
          refine wp_region_any (by kernel_rfl) ?_
          refine wpAny_inv (fun listed ac wq => ∃ u : Nat → Value, ac = { tmps := #[.pointer (some ⟨C, 0, none⟩), undef, .pointer (some ⟨w.heap.size, 0, none⟩), .pointer (some ⟨DB, 0, none⟩), .bool okb, .int .i64 m, .int .i64 k, u7, u8, .tuple #[.agg #[.slice xa S0.length xc, .slice ya L0.length yc], .bool okb], .pointer (some ⟨C, 0, none⟩), .int .i64 x, .int .i64 (1 + x), .tuple #[.agg #[.slice xa S0.length xc, .slice ya L0.length yc], .bool okb], .agg #[.slice xa S0.length xc, .slice ya L0.length yc], .bool okb, .pointer (some ⟨C, 0, none⟩), .int .i64 m, .int .i64 k, .int .i64 m, .bool false, u21, u22, u23, u24, u25, u26, u27, u28, u29, u30, u31, u32, u33, u34, u35, u36, u37, u38, u39, u40, u41, .pointer (some ⟨C, 0, none⟩), .int .i64 1, .bool false, .bool false, undef, undef, undef, undef, undef, undef, undef, undef, undef, undef, undef, undef, .bool true, .bool true, u 60, u 61, u 62, u 63, u 64, u 65, u 66, u 67, undef], defers := [] } ∧ (Eff C w wq ∧ Cur w0 ao n cap C wq ∧ Blk wq w.heap.size [.slice none 0 0, .slice none 0 0] 27 ∧ Blk wq DB [.slice (some ⟨g, 0, none⟩) S.length l1, .slice p2 L.length l2] 27 ∧ OwG wq w.heap.size 43 2 (.slice p2 L.length l2) L.length (encW L) ∧ (listed.getD 8 false = false → OwG wq w.heap.size 9 1 (.slice (some ⟨g, 0, none⟩) S.length l1) S.length (encS S))) ∧ Facts 9 (fun j => VF S (.slice (some ⟨g, 0, none⟩) S.length l1) w.heap.size C DB g j) Df listed u wq) ?hpre ?hstep ?hend _ _ _ _ rfl (by decide) (fun j oj _ hl => absurd hl (by simp [Array.getD])) ⟨fun _ => undef, rfl, ⟨HE.out.drew, HC.out.below (Below.refl _ _).drew, O.out, D.out, G2.out, fun _ => G1.out⟩, fun j hj hl => absurd hl (by simp [Array.getD])⟩
          case hpre => exact pre_of (by kernel_rfl)
          case hstep =>
            rintro listed ac wq i o hszl ⟨u, rfl, ⟨he, hc, ho0, hdd, hg2, hg1⟩, hF⟩ ho hall hun hcl
            have hin : i < 9 := (Array.getElem?_eq_some_iff.1 ho).1
            have c0 := hdd.cell (i := 0) rfl
            have c1 := hdd.cell (i := 1) rfl
            have ST : Hid (i ≠ 8 → ∀ (wz : World) (v : Value), Eff C wq wz → Cur w0 ao n cap C wz → (fun j => VF S (.slice (some ⟨g, 0, none⟩) S.length l1) w.heap.size C DB g j) i v wz → (Eff C w wz ∧ Cur w0 ao n cap C wz ∧ Blk wz w.heap.size [.slice none 0 0, .slice none 0 0] 27 ∧ Blk wz DB [.slice (some ⟨g, 0, none⟩) S.length l1, .slice p2 L.length l2] 27 ∧ OwG wz w.heap.size 43 2 (.slice p2 L.length l2) L.length (encW L) ∧ ((listed.setIfInBounds i true).getD 8 false = false → OwG wz w.heap.size 9 1 (.slice (some ⟨g, 0, none⟩) S.length l1) S.length (encS S))) ∧ Facts 9 (fun j => VF S (.slice (some ⟨g, 0, none⟩) S.length l1) w.heap.size C DB g j) Df (listed.setIfInBounds i true) (upd u (Df i) v) wz) := fun h1 wz v hez hcz hv => ⟨⟨he.trans hez, hcz, ho0.eff hez (by omega), hdd.eff hez hDBne, hg2.eff hez hClt, fun h => (hg1 (by rw [getD_set_ne false (fun e => h1 e)] at h; exact h)).eff hez hClt⟩, hF.step i v (fun j hj hne _ => Df_ne ⟨i, hin⟩ ⟨j, hj⟩ (fun e => hne (congrArg Fin.val e))) (fun j x _ h => VF.eff hClt hez _ _ h) hv⟩
            obtain rfl | rfl | rfl | rfl | rfl | rfl | rfl | rfl | rfl : i = 0 ∨ i = 1 ∨ i = 2 ∨ i = 3 ∨ i = 4 ∨ i = 5 ∨ i = 6 ∨ i = 7 ∨ i = 8 := by omega
            · cases ho
              refine wpOp_step rfl (fun K hK => ?_)
              go_simp
              refine hK _ _ ⟨upd u 60 (.pointer (some ⟨DB, 0, none⟩)), ?_, ST.out (by decide) _ _ (Eff.refl _ _) hc rfl⟩
              first | (simp [upd]; done) | rfl | (simp [upd]; omega)
            · cases ho
              have f0 : u 60 = .pointer (some ⟨DB, 0, none⟩) := hF 0 (by decide) (hall ⟨0, .data⟩ (by simp) rfl)
              refine wpOp_step rfl (fun K hK => ?_)
              simp only [f0]
              go_simp
              refine hK _ _ ⟨upd u 61 (.slice (some ⟨g, 0, none⟩) S.length l1), ?_, ST.out (by decide) _ _ (Eff.refl _ _) hc rfl⟩
              first | (simp [upd, f0]; done) | rfl | (simp [upd, f0]; omega)
            · cases ho
              refine wpOp_step rfl (fun K hK => ?_)
              go_simp
              refine hK _ _ ⟨upd u 62 (.pointer (some ⟨C, 0, none⟩)), ?_, ST.out (by decide) _ _ (Eff.refl _ _) hc rfl⟩
              first | (simp [upd]; done) | rfl | (simp [upd]; omega)
            · cases ho
              refine wpOp_step rfl (fun K hK => ?_)
              go_simp
              refine hK _ _ ⟨upd u 63 (.pointer (some ⟨C, 0, none⟩)), ?_, ST.out (by decide) _ _ (Eff.refl _ _) hc rfl⟩
              first | (simp [upd]; done) | rfl | (simp [upd]; omega)
            · cases ho
              have f3 : u 63 = .pointer (some ⟨C, 0, none⟩) := hF 3 (by decide) (hall ⟨3, .data⟩ (by simp) rfl)
              refine wpOp_step rfl (fun K hK => ?_)
              simp only [f3]
              go_simp
              go_wp2_with (go_at_call 32; refine (below_any w0 ao n cap C zs 2 wq HCO.out hc).mono ?_; rintro e wz ⟨z, rfl, hz, hcz, hez⟩; obtain ⟨zn, rfl⟩ : ∃ zn : Nat, z = zn := ⟨z.toNat, by omega⟩)
              first | refine hK _ _ ⟨upd u 64 (.int .i64 zn), ?_, ST.out (by decide) _ _ hez hcz ⟨zn, rfl, by omega⟩⟩ | refine ⟨upd u 64 (.int .i64 zn), ?_, ST.out (by decide) _ _ hez hcz ⟨zn, rfl, by omega⟩⟩
              simp [upd, f3]
            · cases ho
              obtain ⟨z, f4, hz⟩ : ∃ z : Nat, u 64 = .int .i64 z ∧ z ≤ 2 := hF 4 (by decide) (hall ⟨4, .data⟩ (by simp) rfl)
              have hw5 : IntKind.i64.wrap (128 + (z : Int)) = 128 + (z : Int) := by rw [IntKind.wrap_i64]; omega
              refine wpOp_step rfl (fun K hK => ?_)
              simp only [f4]
              go_simp
              refine hK _ _ ⟨upd u 65 (.int .i64 (128 + (z : Int))), ?_, ST.out (by decide) _ _ (Eff.refl _ _) hc ⟨128 + z, by rw [Int.natCast_add]; rfl, by omega⟩⟩
              first | (simp [upd, f4]; done) | rfl | (simp [upd, f4]; omega)
            · cases ho
              have f2 : u 62 = .pointer (some ⟨C, 0, none⟩) := hF 2 (by decide) (hall ⟨2, .data⟩ (by simp) rfl)
              obtain ⟨z, f5, hz⟩ : ∃ z : Nat, u 65 = .int .i64 z ∧ z ≤ 1000 := hF 5 (by decide) (hall ⟨5, .data⟩ (by simp) rfl)
              refine wpOp_step rfl (fun K hK => ?_)
              simp only [f2, f5]
              go_simp
              go_wp2_with (go_at_call 34; refine (any_any w0 ao n cap C zs z wq (by omega) HCO.out hc).mono ?_; rintro e wz ⟨s, rfl, hs, hcz, hez⟩)
              first | refine hK _ _ ⟨upd u 66 (.string s), ?_, ST.out (by decide) _ _ hez hcz ⟨s, rfl⟩⟩ | refine ⟨upd u 66 (.string s), ?_, ST.out (by decide) _ _ hez hcz ⟨s, rfl⟩⟩
              simp [upd, f2, f5]
            · cases ho
              have f1 : u 61 = .slice (some ⟨g, 0, none⟩) S.length l1 := hF 1 (by decide) (hall ⟨1, .data⟩ (by simp) rfl)
              refine wpOp_step rfl (fun K hK => ?_)
              simp only [f1]
              go_simp
              refine hK _ _ ⟨upd u 67 (.pointer (some ⟨g, 0, none⟩)), ?_, ST.out (by decide) _ _ (Eff.refl _ _) hc rfl⟩
              first | (simp [upd, f1]; done) | rfl | (simp [upd, f1]; omega)
            · cases ho
              have f7 : u 67 = .pointer (some ⟨g, 0, none⟩) := hF 7 (by decide) (hall ⟨7, .data⟩ (by simp) rfl)
              obtain ⟨s, f6⟩ : ∃ s, u 66 = .string s := hF 6 (by decide) (hall ⟨6, .data⟩ (by simp) rfl)
              have hown := hg1 (by simp only [Array.getD] at hun ⊢; split at hun <;> simp_all)
              obtain ⟨b9, off9, e9, hold⟩ := hown.rw.atS 0 hS0
              cases e9
              rw [Nat.zero_add] at hold
              have hfr := hown.free 0
              have hnew := hown.store 0 (.string s)
              rw [encS_set] at hnew
              have HF : Hid (Facts 9 (fun j => VF S (.slice (some ⟨g, 0, none⟩) S.length l1) w.heap.size C DB g j) Df (listed.setIfInBounds 8 true) u (wq.setCell ⟨g, 0, none⟩ (.string s))) := hid (by
                intro j hj hl
                by_cases e : j = 8
                · subst e
                  exact ⟨s, hnew⟩
                · rw [getD_set_ne false (fun h => e h.symm)] at hl
                  exact VF.pure _ _ e (hF j hj hl))
              have HEZ : Hid (Eff C w (wq.setCell ⟨g, 0, none⟩ (.string s))) := hid ⟨he.os, he.tape, he.output, by have := he.size; simpa [World.setCell] using this, fun q hq hne => (Below.heap_setCell _ _ _ _ (by show q ≠ g; simp only at hge; omega)).trans (he.block q hq hne)⟩
              have HCZ := hid (hc.belowB (B := C + 1) (Nat.lt_succ_self _) ((Below.refl (C + 1) wq).setCell (p := ⟨g, 0, none⟩) (by show C + 1 ≤ g; simp only at hge; omega) (.string s)))
              have HOZ := hid (ho0.other (a := ⟨g, 0, none⟩) (fun e => hown.tag ho0 (by decide) (by rw [e]; rfl)) (.string s))
              have HDZ := hid (hdd.other (a := ⟨g, 0, none⟩) (fun e => hown.tag hdd (by decide) (by rw [e]; rfl)) (.string s))
              have HGZ := hid (hg2.setCell_other (a := ⟨g, 0, none⟩) (fun e => hg2.apart hown (by decide) g e rfl) (.string s))
              generalize sAt S 0 = Y at *
              clear ST hnew
              refine wpOp_step rfl (fun K hK => ?_)
              simp only [f7, f6]
              go_simp
              refine hK _ _ ⟨u, ?_, ⟨HEZ.out, HCZ.out, HOZ.out, HDZ.out, HGZ.out, fun h => ?_⟩, HF.out⟩
              · simp [f7, f6]
              · simp [Array.getD, hszl] at h
          case hend =>
            rintro listed ac wx hall ⟨u, rfl, ⟨hex, hcx, ox, dx, o2, _⟩, hF⟩
            obtain ⟨s, o1⟩ : ∃ s, OwG wx w.heap.size 9 1 (.slice (some ⟨g, 0, none⟩) S.length l1) S.length (encS (S.set 0 s)) := hF 8 (by decide) (hall 8 (by decide))
            clear hF hall O D G1 G2 HE HC q0 q1
            have O := hid ox
            have HE := hid hex
            have HC := hid hcx
            have G1 := hid o1
            have G2 := hid o2
            have q0 := dx.cell (i := 0) rfl
            have q1 := dx.cell (i := 1) rfl
            have HLN := hid (show (S.set 0 s).length = S.length by simp)
            clear dx ox hex hcx o1 o2
            have k0 := O.out.cell (i := 0) rfl
            have k1 := O.out.cell (i := 1) rfl
            have f0 := O.out.free 0
            have f1 := O.out.free 1
            have F := (O.out.set 0 (.slice (some ⟨g, 0, none⟩) S.length l1)).set 1 (.slice p2 L.length l2)
            have y0 := F.cell (i := 0) rfl
            have y1 := F.cell (i := 1) rfl
            have F1 := O.out.set 0 (.slice (some ⟨g, 0, none⟩) S.length l1)
            have x1 := F1.cell (i := 1) rfl
            have z1 := F1.free 1
            clear F F1
            go_wp2_with fail
            refine bodyPost_ret (v := .agg #[.slice (some ⟨g, 0, none⟩) S.length l1, .slice p2 L.length l2]) (by simp [results, Try.results31, go_sem, y0, y1]) rfl ?_
            refine ⟨_, rfl, (S.set 0 s), by rw [HLN.out]; exact hSL.out.1, by rw [HLN.out]; exact hSL.out.2.1, L, by omega, ⟨_, _, rfl, ((G1.out.setCell_other (fun e => G1.out.tag O.out (by decide) e.symm) _).setCell_other (fun e => G1.out.tag O.out (by decide) e.symm) _).cast HLN.out.symm rfl, (G2.out.setCell_other (fun e => G2.out.tag O.out (by decide) e.symm) _).setCell_other (fun e => G2.out.tag O.out (by decide) e.symm) _⟩, HC.out.belowB (B := C + 1) (Nat.lt_succ_self _) (((Below.refl (C + 1) wx).setCell (p := ⟨w.heap.size, 0, none⟩) (by show C + 1 ≤ w.heap.size; omega) _).setCell (p := ⟨w.heap.size, 1, none⟩) (by show C + 1 ≤ w.heap.size; omega) _), ⟨HE.out.os, HE.out.tape, HE.out.output, by have := HE.out.size; simpa [World.setCell] using this, fun q hq hne => ((Below.heap_setCell _ _ _ _ (by show q ≠ w.heap.size; omega)).trans (Below.heap_setCell _ _ _ _ (by show q ≠ w.heap.size; omega))).trans (HE.out.block q hq hne)⟩⟩
        · have ht0' : (t == 0) = false := by simpa using ht0
          have ht1' : (t == 1) = false := by simpa using ht1
          have k0 := O.out.cell (i := 0) rfl
          have k1 := O.out.cell (i := 1) rfl
          have f0 := O.out.free 0
          have f1 := O.out.free 1
          have F := (O.out.set 0 (.slice p1 S.length l1)).set 1 (.slice p2 L.length l2)
          have y0 := F.cell (i := 0) rfl
          have y1 := F.cell (i := 1) rfl
          have F1 := O.out.set 0 (.slice p1 S.length l1)
          have x1 := F1.cell (i := 1) rfl
          have z1 := F1.free 1
          clear F F1
          go_wp2_with fail
          refine bodyPost_ret (v := .agg #[.slice p1 S.length l1, .slice p2 L.length l2]) (by simp [results, Try.results31, go_sem, y0, y1]) rfl ?_
          refine ⟨_, rfl, S, L, hSL.out.1, hSL.out.2.1, by omega, ⟨_, _, rfl, (G1.out.setCell_other (fun e => G1.out.tag O.out (by decide) e.symm) _).setCell_other (fun e => G1.out.tag O.out (by decide) e.symm) _, (G2.out.setCell_other (fun e => G2.out.tag O.out (by decide) e.symm) _).setCell_other (fun e => G2.out.tag O.out (by decide) e.symm) _⟩, HC.out.belowB (B := C + 1) (Nat.lt_succ_self _) (((Below.refl (C + 1) w7).setCell (p := ⟨w.heap.size, 0, none⟩) (by show C + 1 ≤ w.heap.size; omega) _).setCell (p := ⟨w.heap.size, 1, none⟩) (by show C + 1 ≤ w.heap.size; omega) _), ⟨HE.out.os, HE.out.tape, HE.out.output, by have := HE.out.size; simpa [World.setCell] using this, fun q hq hne => ((Below.heap_setCell _ _ _ _ (by show q ≠ w.heap.size; omega)).trans (Below.heap_setCell _ _ _ _ (by show q ≠ w.heap.size; omega))).trans (HE.out.block q hq hne)⟩⟩
end Go.Proofs.Ytlphojlccecnhaa
