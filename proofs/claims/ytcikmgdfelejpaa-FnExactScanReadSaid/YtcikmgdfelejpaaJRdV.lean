/- The contract of l04Block of the specification. -/
import Derived.Test.YtcikmgdfelejpaaJRdU
namespace Go.Proofs.Ytcikmgdfelejpaa
open Go.RowKit Go.Maps
set_option linter.unusedVariables false

/-- What l04Block answers. -/
def LbP (T : Tb) (xs : List Int) (i : Nat) (ahead : Int) (w : World) (e : Ending) (w' : World) : Prop :=
  ((∃ d ac p v, IsB T xs i ahead d ac p ∧ e = .returned (.tuple #[.agg #[.int .i64 d, v], .int .i64 (p : Nat)]) ∧ Own w' w.heap.size 3 .i64 v ac ∧ p ≤ xs.length) ∨ (NoB T xs i ahead ∧ e = .returned (.tuple #[.agg #[.int .i64 0, .slice none 0 0], .int .i64 (-1)]))) ∧ Below w.heap.size w w'
theorem LbP.no {T : Tb} {xs : List Int} {i : Nat} {ahead : Int} {w w1 : World} {g : Nat} (h : NoB T xs i ahead) (hb : Below w.heap.size w w1) (hg : w.heap.size ≤ g) :
    LbP T xs i ahead w (.returned (.tuple #[.agg #[.int .i64 0, .slice none 0 0], .int .i64 (-1)])) ((w1.setCell ⟨g, 0, none⟩ (.int .i64 0)).setCell ⟨g, 1, none⟩ (.slice none 0 0)) :=
  ⟨.inr ⟨h, rfl⟩, (hb.setCell (p := ⟨g, 0, none⟩) hg _).setCell (p := ⟨g, 1, none⟩) hg _⟩

theorem short_next {L : List (Int × Int × List Int)} {k : Nat} (h : Short L k) (hl : L.length = k) (ho : OpenS L) (hc : cntS L < 63) : Short L (k + 1) := fun j hj => by
  by_cases e : j < k
  · exact h j e
  · have : j = L.length := by omega
    subst this
    rw [List.take_length]
    exact ⟨ho, hc⟩
theorem short_snoc {L : List (Int × Int × List Int)} {k : Nat} {s : Int × Int × List Int} (h : Short L (k + 1)) (hl : L.length = k) : Short (L ++ [s]) (k + 1) := fun j hj => by
  have e : (L ++ [s]).take j = L.take j := List.take_append_of_le_length (by omega)
  rw [e]
  exact h j hj
theorem nthS_in (S : List (Int × Int × List Int)) (j : Nat) (h : j < S.length) : nthS S j ∈ S := by simp [nthS, List.getD, h]

set_option maxRecDepth 100000 in
set_option maxHeartbeats 3200000 in
theorem spec_block (T : Tb) (xs : List Int) (ao : Option Addr) (cap i base : Nat) (ahead : Int) (a0 a1 a2 a3 : Option Addr) (n0 c0 n1 c1 n2 c2 n3 c3 : Nat) (va vb : Value) (w : World) (hT : T.right) (hx : xs.length ≤ 480000) (hi : i ≤ xs.length) (ha : -2000 ≤ ahead ∧ ahead ≤ 2000) (hall : AllBits xs) (hsl : SlOk ao xs.length cap)
    (h1 : TabAt w (.agg #[.slice a0 n0 c0, .slice a1 n1 c1]) va T 0 base) (h2 : TabAt w (.agg #[.slice a2 n2 c2, .slice a3 n3 c3]) vb T 1 base) (hv : View .i64 w ao xs.length xs) :
    Calls Try.prog 53 #[.agg #[.slice a0 n0 c0, .slice a1 n1 c1, .slice a2 n2 c2, .slice a3 n3 c3], va, vb, .slice ao xs.length cap, .int .i64 i, .int .i64 ahead] w (LbP T xs i ahead w) := by
  have hA := (Below.refl w.heap.size w).alloc (Nat.le_refl _) (.cells #[.slice a0 n0 c0, .slice a1 n1 c1, .slice a2 n2 c2, .slice a3 n3 c3] 34)
  have hA2 := hA.alloc hA.size (.cells #[.int .i64 0, .slice none 0 0] 71)
  have HB := hid hA2
  have HF := hid ((Four.new w (.slice a0 n0 c0) (.slice a1 n1 c1) (.slice a2 n2 c2) (.slice a3 n3 c3) 34).below ((Below.refl _ _).alloc (Nat.le_refl _) (.cells #[.int .i64 0, .slice none 0 0] 71)) (Four.new w _ _ _ _ 34).lt)
  have HT := hid (Two.new (w.alloc (.cells #[.slice a0 n0 c0, .slice a1 n1 c1, .slice a2 n2 c2, .slice a3 n3 c3] 34)) (.int .i64 0) (.slice none 0 0) 71)
  have hsz : (w.alloc (.cells #[.slice a0 n0 c0, .slice a1 n1 c1, .slice a2 n2 c2, .slice a3 n3 c3] 34)).heap.size = w.heap.size + 1 := by simp
  rw [hsz] at HT
  have HTR := hid hT
  have HAL := hid hall
  have HSL := hid hsl
  have HS0 := hid (fun q j (hj : j ≤ xs.length) (hq : Below w.heap.size w q) => sym_tab _ va T 0 xs ao cap j base q (.inl rfl) hT (by omega) hj (h1.below hq) (hv.below (Nat.le_refl _) hq))
  have HS1 := hid (fun q j (hj : j ≤ xs.length) (hq : Below w.heap.size w q) => sym_tab _ vb T 1 xs ao cap j base q (.inr rfl) hT (by omega) hj (h2.below hq) (hv.below (Nat.le_refl _) hq))
  have HRT := hid (fun q j n (hj : j ≤ xs.length) (hn : n ≤ 1000) (hq : Below w.heap.size w q) => spec_restAt ao cap xs j n q (by omega) hj hn hsl hall (hv.below (Nat.le_refl _) hq))
  have HV := hid hv
  have ha1 := ha.1
  have ha2 := ha.2
  clear hA hA2 hsz hT hall hsl h1 h2 hv ha
  go_enter Try.func53, Try.ntmps53
  go_wp2_with fail
  refine (HS0.out _ i hi HB.out).mono ?_
  generalize (w.alloc (.cells #[.slice a0 n0 c0, .slice a1 n1 c1, .slice a2 n2 c2, .slice a3 n3 c3] 34)).alloc (.cells #[.int .i64 0, .slice none 0 0] 71) = wa at *
  rintro e w1 ⟨⟨s, at_, hsy, hin, hnl, hs255, rfl⟩ | ⟨hsy, rfl⟩, hb1⟩
  · have B1 := hid (HB.out.trans (hb1.mono HB.out.size))
    have F1 := hid (HF.out.below hb1 HF.out.lt)
    have T1 := hid (HT.out.below hb1 HT.out.lt)
    have H1 := hid hsy
    clear hsy hb1 HB HF HT
    go_wp2_with fail
    refine (HRT.out _ at_ s hnl (by omega) B1.out).mono ?_
    rintro e w2 ⟨⟨hbad, rfl⟩ | ⟨h11, hfit, rfl⟩, hb2⟩
    · have HNB := hid (show NoB T xs i ahead from fun x n h => by
        rcases hbad with hb | hb
        · rw [shiftR_far H1.out (by omega)] at h; cases h
        · rw [shiftR_few H1.out hb] at h; cases h)
      have B2 := hid (B1.out.trans (hb2.mono B1.out.size))
      have T2 := hid (T1.out.below hb2 T1.out.lt)
      obtain ⟨q1, q2, q3, q4⟩ := T2.out.cells
      have HC0 := hid ((T2.out.set0 (.int .i64 0)).set1 (.slice none 0 0))
      clear hbad hb2
      go_wp2_with fail
      obtain ⟨p1, p2, p3, p4⟩ := HC0.out.cells
      refine bodyPost_ret (v := .tuple #[.agg #[.int .i64 0, .slice none 0 0], .int .i64 (-1)]) (by simp [results, Try.results53, go_sem, q1, q2]) rfl ?_
      exact LbP.no HNB.out B2.out (by omega)
    · have HSH := hid (shiftR_some H1.out hfit (by omega))
      have hfb := frv_bd (xs := (xs.drop at_).take s) (by simp only [List.length_take]; omega) (HAL.out.sub at_ s)
      have hf1 := hfb.1
      have hf2 := hfb.2
      have B2 := hid (B1.out.trans (hb2.mono B1.out.size))
      have T2 := hid (T1.out.below hb2 T1.out.lt)
      have F2 := hid (F1.out.below hb2 F1.out.lt)
      have hn0 : at_ + s ≤ xs.length := by omega
      clear hb2 hfb B1 T1 F1 H1 hfit h11
      generalize frv ((xs.drop at_).take s) = x at *
      generalize at_ + s = n at *
      have O3 := hid (OwnT.empty w2 w2.heap.size (Nat.le_refl _))
      have B3 := hid ((Below.refl w2.heap.size w2).alloc (Nat.le_refl _) (.cells #[] 73))
      go_wp2_with fail
      generalize w2.alloc (.cells #[] 73) = w3 at *
      go_loopw [17, 18, 19] (fun nx st cn wr => ∃ (k p : Nat) (L : List (Int × Int × List Int)) (vs : List Value), p ≤ xs.length ∧ (0 ≤ cntS L ∧ cntS L ≤ 1000 ∧ (L.length : Int) ≤ cntS L) ∧ nx = .int .i64 p ∧ cn = .int .i64 (cntS L) ∧ Hid (rdK T xs n k = some (L, p)) ∧ Hid (Short L k ∧ OpenS L ∧ ∀ s ∈ L, s.2.2.length ≤ 11) ∧ Hid (OwnT wr w2.heap.size st L vs) ∧ Hid (Below w2.heap.size w2 wr)) (fun _ _ cn _ => 63 - (intOf cn).toNat)
      case atStart => exact ⟨0, n, [], [], hn0, ⟨by simp [cntS], by simp [cntS], by simp [cntS]⟩, rfl, rfl, rfl, ⟨fun j hj => absurd hj (by omega), fun s hs => by simp at hs, fun s hs => by simp at hs⟩, O3.out, B3.out⟩
      case round =>
        obtain ⟨k, p, L, vs, hp, ⟨hc0, hc1, hLl⟩, rfl, rfl, hrd, hsh, hown, hb⟩ := hrel
        obtain ⟨lo, lc, rfl⟩ := hown.out.shape
        have BW := hid (B2.out.trans (hb.out.mono B2.out.size))
        have TW := hid (T2.out.below hb.out T2.out.lt)
        have FW := hid (F2.out.below hb.out F2.out.lt)
        obtain ⟨f0, f1, f2, f3⟩ := FW.out.cells
        by_cases hlt : cntS L < 63
        · go_wp2_with fail
          refine (HS1.out _ p hp BW.out).mono ?_
          rintro e w4 ⟨⟨s1, q, hsy, hpq, hql, h255, rfl⟩ | ⟨hsy, rfl⟩, hb4⟩
          · have H1 := hid hsy
            have B4 := hid (BW.out.trans (hb4.mono BW.out.size))
            have hq1 : ((s1 : Nat) : Int).tdiv 16 = ((s1 / 16 : Nat) : Int) := by rw [Int.tdiv_eq_ediv_of_nonneg (by omega)]; omega
            have hq2 : ((s1 : Nat) : Int).tmod 16 = ((s1 % 16 : Nat) : Int) := by rw [Int.tmod_eq_emod_of_nonneg (by omega)]; omega
            have HM := hid (show (s1 : Int) % 16 = ((s1 % 16 : Nat) : Int) by omega)
            have HD := hid (show (s1 : Int) / 16 = ((s1 / 16 : Nat) : Int) by omega)
            have hm16 : s1 % 16 < 16 := by omega
            have hr16 : s1 / 16 < 16 := by omega
            have HZ := hid (show s1 = 0 ↔ s1 / 16 = 0 ∧ s1 % 16 = 0 by omega)
            have O4 := hid (hown.out.below hb4)
            have T4 := hid (TW.out.below hb4 TW.out.lt)
            have W4 := hid (hb.out.trans (hb4.mono hb.out.size))
            clear hsy hb4 f0 f1 f2 f3 FW
            generalize s1 / 16 = r at *
            generalize s1 % 16 = m at *
            go_wp2_with fail
            refine (HRT.out _ q m hql (by omega) B4.out).mono ?_
            rintro e w5 ⟨⟨hbad, rfl⟩ | ⟨h11, hfit, rfl⟩, hb5⟩
            · have HNB := hid (show NoB T xs i ahead from fun x' n' h' _ => by
                rw [HSH.out] at h'
                cases h'
                refine no_good_spec hrd.out (short_next hsh.out.1 (rdK_len hrd.out) hsh.out.2.1 hlt) ?_
                by_cases hfew : (xs.length : Int) - q < m
                · exact .inl (rd1_few H1.out (by rw [HM.out]; exact hfew))
                · exact .inr ⟨_, _, rd1_some H1.out HM.out (by omega), by show (11 : Int) < m; omega⟩)
              have B5 := hid (B4.out.trans (hb5.mono B4.out.size))
              have T5 := hid (T4.out.below hb5 T4.out.lt)
              obtain ⟨q1, q2, q3, q4⟩ := T5.out.cells
              have HC0 := hid ((T5.out.set0 (.int .i64 0)).set1 (.slice none 0 0))
              clear hbad hb5
              go_wp2_with fail
              obtain ⟨p1, p2, p3, p4⟩ := HC0.out.cells
              refine bodyPost_ret (v := .tuple #[.agg #[.int .i64 0, .slice none 0 0], .int .i64 (-1)]) (by simp [results, Try.results53, go_sem, q1, q2]) rfl ?_
              exact LbP.no HNB.out B5.out (by omega)
            · have HR1 := hid (rd1_some H1.out HM.out hfit)
              rw [HD.out] at HR1
              have HRK := hid (rdK_next hrd.out HR1.out)
              have hqm : q + m ≤ xs.length := by omega
              have hylen : ((xs.drop q).take m).length = m := by simp; omega
              have B5 := hid (B4.out.trans (hb5.mono B4.out.size))
              have T5 := hid (T4.out.below hb5 T4.out.lt)
              have O5 := hid (O4.out.below hb5)
              have W5 := hid (W4.out.trans (hb5.mono W4.out.size))
              have A6 := hid ((Below.refl w5.heap.size w5).alloc (Nat.le_refl _) (.cells #[] 3))
              have OE := hid (Own.empty w5 3 .i64 w5.heap.size (Nat.le_refl _))
              have HV6 := hid (HV.out.below (Nat.le_refl _) (B5.out.trans (A6.out.mono B5.out.size)))
              have HYL := hid hylen
              have hcast : ((q + m : Nat) : Int) = (q : Int) + m := by omega
              have HCA := hid hcast
              have HYZ := hid (fun (a : Option Addr) (h0 : m = 0) => (show View .i64 (w5.alloc (.cells #[] 3)) a m ((xs.drop q).take m) from ⟨hylen, fun j hj => absurd hj (by omega)⟩))
              have HVS := hid (fun (blk off : Nat) (e : ao = some ⟨blk, off, none⟩) => (show View .i64 (w5.alloc (.cells #[] 3)) (some ⟨blk, off + q, none⟩) m ((xs.drop q).take m) from (by rw [e] at HV6; exact HV6.out.sub q m hqm)))
              have hile : (q : Int) ≤ (q : Int) + m := by omega
              have hi0 : (0 : Int) ≤ (q : Int) + m := by omega
              have hsub : (q : Int) + m - q = m := by omega
              have hxl : (q : Int) + m ≤ (xs.length : Int) := by omega
              have hwm := W5.out.size
              have HSN := hid (short_snoc (s := ((r : Int), (m : Int), (xs.drop q).take m)) (short_next hsh.out.1 (rdK_len hrd.out) hsh.out.2.1 hlt) (rdK_len hrd.out))
              have HCN := hid (cntS_snoc ((r : Int), (m : Int), (xs.drop q).take m) L)
              have HAB := hid (show (L ++ [((r : Int), (m : Int), (xs.drop q).take m)]).length ≤ L.length + 1 ∧ ∀ s ∈ L ++ [((r : Int), (m : Int), (xs.drop q).take m)], s.2.2.length ≤ 11 from ⟨by simp, fun s hs => by
                simp only [List.mem_append, List.mem_singleton] at hs
                rcases hs with hs | rfl
                · exact hsh.out.2.2 s hs
                · show ((xs.drop q).take m).length ≤ 11
                  omega⟩)
              have HOP := hid (fun (hnz : ¬ s1 = 0) => (show OpenS (L ++ [((r : Int), (m : Int), (xs.drop q).take m)]) from fun s hs => by
                simp only [List.mem_append, List.mem_singleton] at hs
                rcases hs with hs | rfl
                · exact hsh.out.2.1 s hs
                · rintro ⟨e1, e2⟩
                  have e1' : (r : Int) = 0 := e1
                  have e2' : (m : Int) = 0 := e2
                  exact hnz (HZ.out.2 ⟨by omega, by omega⟩)))
              have HSHUT := hid (fun (hz : s1 = 0) => (show ∃ L0 bits, L ++ [((r : Int), (m : Int), (xs.drop q).take m)] = L0 ++ [(0, 0, bits)] from ⟨L, (xs.drop q).take m, by rw [(HZ.out.1 hz).1, (HZ.out.1 hz).2]; rfl⟩))
              have hLl2 : L.length < 1000000000 := by omega
              clear hb5 HV6 HR1 H1 HM HD HZ
              generalize (xs.drop q).take m = Y at *
              have HLL := hid (show ([] : List Int).length + Y.length < 1000000000000 by simp; omega)
              have HYW := hid (show Y.length = m from hylen)
              clear hylen HYL
              obtain ⟨blk, off, rfl, hcap⟩ := HSL.out.resolve_left (fun h => by have := h.2.1; omega)
              · have HVS2 := hid (HVS.out blk off rfl)
                have hcap' : (q : Int) + m ≤ (cap : Int) := by omega
                rw [hcast]
                clear hcast
                have HVI := hid (show View .i64 (w5.alloc (.cells #[] 3)) (if cap = q then some ⟨blk, off, none⟩ else some ⟨blk, off + q, none⟩) (q + m - q) Y by
                  rw [show q + m - q = m by omega]
                  by_cases e : cap = q
                  · exact HYZ.out _ (by omega)
                  · rw [if_neg e]; exact HVS2.out)
                have HYO := hid (show ((if cap = q then some (⟨blk, off, none⟩ : Addr) else some ⟨blk, off + q, none⟩) = none ∧ q + m - q = 0 ∧ cap - q = 0) ∨ ∃ b' o', (if cap = q then some (⟨blk, off, none⟩ : Addr) else some ⟨blk, off + q, none⟩) = some ⟨b', o', none⟩ from .inr (by
                  by_cases e : cap = q
                  · exact ⟨blk, off, if_pos e⟩
                  · exact ⟨blk, off + q, if_neg e⟩))
                clear HYZ HVS HVS2
                go_wp2_with (at_builtin; refine wpList_appV _ rfl _ _ 22 rfl w5.heap.size 3 .i64 0 8 Try.underlying22 Try.info3 _ [] (by rfl) OE.out _ (q + m - q) (cap - q) Y (by rfl) HVI.out HYO.out HLL.out (by decide) ?_)
                all_goals
                  try (have hcq : q = cap := (‹cap = q›).symm; subst hcq)
                  intro v7 w7 ho7 hb7
                  obtain ⟨ya, yc, rfl⟩ := ho7.shape
                  have W57 := A6.out.trans hb7
                  have B7 := hid (B5.out.trans (W57.mono B5.out.size))
                  have O7 := hid (O5.out.below W57)
                  have T7 := hid (T5.out.below W57 T5.out.lt)
                  have W7 := hid (W5.out.trans (W57.mono W5.out.size))
                  have HY := hid (ho7.mono hwm)
                  have HYB := hid (fun j (hj : j < L.length) (a a' : Addr) (n n' c c' : Nat) (e1 : vs.getD j (.bool false) = .slice (some a) n c) (e2 : Value.slice ya Y.length yc = .slice (some a') n' c') => (show a.block < a'.block by
                    have h1 := O5.out.lt j hj a n c e1
                    rw [e2] at ho7
                    have h2 := ho7.ge.1
                    omega))
                  have hw2 : w.heap.size + 1 < w2.heap.size := T2.out.lt
                  clear ho7 hb7 W57 OE HVI HYO HLL
                  go_wp2_with (at_builtin; refine wpList_pushS w7 w7.heap.size rfl rfl _ _ 69 rfl w2.heap.size Try.underlying69 Try.info73 _ L vs (by rfl) O7.out (r : Int) (m : Int) ya Y.length yc Y HY.out HYB.out (by rfl) hLl2 ?_)
                  intro v8 w8 ho8 hb8
                  obtain ⟨lo8, lc8, rfl⟩ := ho8.shape
                  have B8 := hid (B7.out.trans (hb8.mono (by omega)))
                  have T8 := hid (T7.out.below hb8 hw2)
                  have W8 := hid (W7.out.trans hb8)
                  have O8 := hid ho8
                  clear ho8 hb8 HY HYB
                  generalize L ++ [((r : Int), (m : Int), Y)] = L2 at *
                  by_cases hz : s1 = 0
                  · have HEND2 := hid (show Short L2 (k + 1) ∧ ((OpenS L2 ∧ 63 ≤ cntS L2) ∨ ∃ L0 bits, L2 = L0 ++ [(0, 0, bits)]) from ⟨HSN.out, .inr (HSHUT.out hz)⟩)
                    have HLN2 := hid (show L2.length ≤ 1001 ∧ ∀ s ∈ L2, s.2.2.length ≤ 11 from ⟨by have := HAB.out.1; omega, HAB.out.2⟩)
                    subst hz
                    have HFS := hid (spec_fromSteps (ahead + x) lo8 lc8 L2 w8 (by have := HLN2.out.1; omega) (fun j hj => by have := HLN2.out.2 _ (nthS_in L2 j hj); omega) O8.out.srow)
                    have HYES := hid (fun ac (h : fromR (ahead + x) L2 = some ac) => (show IsB T xs i ahead (ahead + x) ac (q + m) from ⟨x, n, HSH.out, rfl, (good_end HRK.out h).1, (good_end HRK.out h).2⟩))
                    have HNO := hid (fun (h : fromR (ahead + x) L2 = none) => (show NoB T xs i ahead from fun x' n' h' hc => by
                      rw [HSH.out] at h'
                      cases h'
                      exact no_good_end HRK.out HEND2.out.1 HEND2.out.2 hc h))
                    generalize fromR (ahead + x) L2 = R at *
                    clear hcap' hile
                    go_wp2_with fail
                    refine HFS.out.mono ?_
                    rintro e w9 ⟨hb9, v9, rfl, ho9⟩
                    obtain ⟨zo, zc, rfl⟩ := ho9.shape
                    have B9 := hid (B8.out.trans (hb9.mono B8.out.size))
                    have T9 := hid (T8.out.below hb9 T8.out.lt)
                    have O9 := hid (ho9.mono B8.out.size)
                    clear hb9 ho9 HFS
                    cases R with
                    | none =>
                      have HNB := hid (HNO.out rfl)
                      simp only [Option.getD_none, Option.isSome_none, List.length_nil, Bool.false_eq_true, if_false] at *
                      have A10 := hid ((Below.refl w9.heap.size w9).alloc (Nat.le_refl _) (.cells #[.int .i64 0, .slice zo 0 zc] 71))
                      have B10 := hid (B9.out.trans (A10.out.mono B9.out.size))
                      have T10 := hid (T9.out.below A10.out T9.out.lt)
                      obtain ⟨q1, q2, q3, q4⟩ := T10.out.cells
                      have HC0 := hid ((T10.out.set0 (.int .i64 0)).set1 (.slice none 0 0))
                      clear HYES HNO
                      go_wp2_with fail
                      obtain ⟨p1, p2, p3, p4⟩ := HC0.out.cells
                      refine bodyPost_ret (v := .tuple #[.agg #[.int .i64 0, .slice none 0 0], .int .i64 (-1)]) (by simp [results, Try.results53, go_sem, q1, q2]) rfl ?_
                      exact LbP.no HNB.out B10.out (by omega)
                    | some ac =>
                      have HIB := hid (HYES.out ac rfl)
                      have A10 := hid ((Below.refl w9.heap.size w9).alloc (Nat.le_refl _) (.cells #[.int .i64 (ahead + x), .slice zo ac.length zc] 71))
                      have B10 := hid (B9.out.trans (A10.out.mono B9.out.size))
                      have T10 := hid (T9.out.below A10.out T9.out.lt)
                      have U10 := hid (Two.new w9 (.int .i64 (ahead + x)) (.slice zo ac.length zc) 71)
                      have O10 := hid (O9.out.below A10.out)
                      obtain ⟨q1, q2, q3, q4⟩ := T10.out.cells
                      obtain ⟨u1, u2, u3, u4⟩ := U10.out.cells
                      have HC0 := hid ((T10.out.set0 (.int .i64 (ahead + x))).set1 (.slice zo ac.length zc))
                      have OO := hid ((O10.out.setTwo (i := 0) T10.out (by decide) (.int .i64 (ahead + x))).setTwo (i := 1) (T10.out.set0 (.int .i64 (ahead + x))) (by decide) (.slice zo ac.length zc))
                      have BB := hid ((B10.out.setCell (p := ⟨w.heap.size + 1, 0, none⟩) (by show w.heap.size ≤ w.heap.size + 1; omega) (.int .i64 (ahead + x))).setCell (p := ⟨w.heap.size + 1, 1, none⟩) (by show w.heap.size ≤ w.heap.size + 1; omega) (.slice zo ac.length zc))
                      clear HYES HNO
                      simp only [Option.getD_some, Option.isSome_some, if_true] at *
                      go_wp2_with fail
                      obtain ⟨p1, p2, p3, p4⟩ := HC0.out.cells
                      refine bodyPost_ret (v := .tuple #[.agg #[.int .i64 (ahead + x), .slice zo ac.length zc], .int .i64 (((q + m) : Nat) : Int)]) (by simp [results, Try.results53, go_sem, q1, q2]) rfl ?_
                      exact ⟨.inl ⟨_, ac, (q + m), _, HIB.out, rfl, OO.out, by omega⟩, BB.out⟩
                  · have hz' : ((s1 : Int) == 0) = false := by simpa using hz
                    have HO2 := hid (HOP.out hz)
                    have HCC := hid (show Value.int .i64 (cntS L + (r : Int) + 1) = .int .i64 (cntS L2) by rw [HCN.out]; congr 1; omega)
                    have HBD := hid (show 0 ≤ cntS L2 ∧ cntS L2 ≤ 1000 ∧ (L2.length : Int) ≤ cntS L2 from ⟨by rw [HCN.out]; show (0 : Int) ≤ cntS L + ((r : Int) + 1); omega, by rw [HCN.out]; show cntS L + ((r : Int) + 1) ≤ (1000 : Int); omega, by rw [HCN.out]; have := HAB.out.1; show (L2.length : Int) ≤ cntS L + ((r : Int) + 1); omega⟩)
                    go_wp2_with fail
                    go_roundw
                    case rel => exact ⟨k + 1, q + m, L2, _, hqm, HBD.out, by rw [HCA.out], HCC.out, HRK.out, ⟨HSN.out, HO2.out, HAB.out.2⟩, O8.out, W8.out⟩
                    case measure => simp [intOf]; omega
          · have HNB := hid (show NoB T xs i ahead from fun x' n' h' _ => by
              rw [HSH.out] at h'
              cases h'
              exact no_good_spec hrd.out (short_next hsh.out.1 (rdK_len hrd.out) hsh.out.2.1 hlt) (.inl (rd1_sym hsy)))
            have B5 := hid (BW.out.trans (hb4.mono BW.out.size))
            have T5 := hid (TW.out.below hb4 TW.out.lt)
            obtain ⟨q1, q2, q3, q4⟩ := T5.out.cells
            have HC0 := hid ((T5.out.set0 (.int .i64 0)).set1 (.slice none 0 0))
            clear hsy hb4 f0 f1 f2 f3 FW
            go_wp2_with fail
            obtain ⟨p1, p2, p3, p4⟩ := HC0.out.cells
            refine bodyPost_ret (v := .tuple #[.agg #[.int .i64 0, .slice none 0 0], .int .i64 (-1)]) (by simp [results, Try.results53, go_sem, q1, q2]) rfl ?_
            exact LbP.no HNB.out B5.out (by omega)
        · have HEND := hid (show Short L k ∧ ((OpenS L ∧ 63 ≤ cntS L) ∨ ∃ L0 bits, L = L0 ++ [(0, 0, bits)]) from ⟨hsh.out.1, .inl ⟨hsh.out.2.1, by omega⟩⟩)
          have HLN := hid (show L.length ≤ 1001 ∧ ∀ s ∈ L, s.2.2.length ≤ 11 from ⟨by omega, hsh.out.2.2⟩)
          have HFS := hid (spec_fromSteps (ahead + x) lo lc L wr (by have := HLN.out.1; omega) (fun j hj => by have := HLN.out.2 _ (nthS_in L j hj); omega) hown.out.srow)
          have HYES := hid (fun ac (h : fromR (ahead + x) L = some ac) => (show IsB T xs i ahead (ahead + x) ac p from ⟨x, n, HSH.out, rfl, (good_end hrd.out h).1, (good_end hrd.out h).2⟩))
          have HNO := hid (fun (h : fromR (ahead + x) L = none) => (show NoB T xs i ahead from fun x' n' h' hc => by
            rw [HSH.out] at h'
            cases h'
            exact no_good_end hrd.out HEND.out.1 HEND.out.2 hc h))
          generalize fromR (ahead + x) L = R at *
          clear f0 f1 f2 f3 FW
          go_wp2_with fail
          refine HFS.out.mono ?_
          rintro e w9 ⟨hb9, v9, rfl, ho9⟩
          obtain ⟨zo, zc, rfl⟩ := ho9.shape
          have B9 := hid (BW.out.trans (hb9.mono BW.out.size))
          have T9 := hid (TW.out.below hb9 TW.out.lt)
          have O9 := hid (ho9.mono BW.out.size)
          clear hb9 ho9 HFS
          cases R with
          | none =>
            have HNB := hid (HNO.out rfl)
            simp only [Option.getD_none, Option.isSome_none, List.length_nil, Bool.false_eq_true, if_false] at *
            have A10 := hid ((Below.refl w9.heap.size w9).alloc (Nat.le_refl _) (.cells #[.int .i64 0, .slice zo 0 zc] 71))
            have B10 := hid (B9.out.trans (A10.out.mono B9.out.size))
            have T10 := hid (T9.out.below A10.out T9.out.lt)
            obtain ⟨q1, q2, q3, q4⟩ := T10.out.cells
            have HC0 := hid ((T10.out.set0 (.int .i64 0)).set1 (.slice none 0 0))
            clear HYES HNO
            go_wp2_with fail
            obtain ⟨p1, p2, p3, p4⟩ := HC0.out.cells
            refine bodyPost_ret (v := .tuple #[.agg #[.int .i64 0, .slice none 0 0], .int .i64 (-1)]) (by simp [results, Try.results53, go_sem, q1, q2]) rfl ?_
            exact LbP.no HNB.out B10.out (by omega)
          | some ac =>
            have HIB := hid (HYES.out ac rfl)
            have A10 := hid ((Below.refl w9.heap.size w9).alloc (Nat.le_refl _) (.cells #[.int .i64 (ahead + x), .slice zo ac.length zc] 71))
            have B10 := hid (B9.out.trans (A10.out.mono B9.out.size))
            have T10 := hid (T9.out.below A10.out T9.out.lt)
            have U10 := hid (Two.new w9 (.int .i64 (ahead + x)) (.slice zo ac.length zc) 71)
            have O10 := hid (O9.out.below A10.out)
            obtain ⟨q1, q2, q3, q4⟩ := T10.out.cells
            obtain ⟨u1, u2, u3, u4⟩ := U10.out.cells
            have HC0 := hid ((T10.out.set0 (.int .i64 (ahead + x))).set1 (.slice zo ac.length zc))
            have OO := hid ((O10.out.setTwo (i := 0) T10.out (by decide) (.int .i64 (ahead + x))).setTwo (i := 1) (T10.out.set0 (.int .i64 (ahead + x))) (by decide) (.slice zo ac.length zc))
            have BB := hid ((B10.out.setCell (p := ⟨w.heap.size + 1, 0, none⟩) (by show w.heap.size ≤ w.heap.size + 1; omega) (.int .i64 (ahead + x))).setCell (p := ⟨w.heap.size + 1, 1, none⟩) (by show w.heap.size ≤ w.heap.size + 1; omega) (.slice zo ac.length zc))
            clear HYES HNO
            simp only [Option.getD_some, Option.isSome_some, if_true] at *
            go_wp2_with fail
            obtain ⟨p1, p2, p3, p4⟩ := HC0.out.cells
            refine bodyPost_ret (v := .tuple #[.agg #[.int .i64 (ahead + x), .slice zo ac.length zc], .int .i64 (p : Nat)]) (by simp [results, Try.results53, go_sem, q1, q2]) rfl ?_
            exact ⟨.inl ⟨_, ac, p, _, HIB.out, rfl, OO.out, by omega⟩, BB.out⟩
  · have HNB := hid (show NoB T xs i ahead from fun x n h => by rw [shiftR_sym hsy] at h; cases h)
    have B2 := hid (HB.out.trans (hb1.mono HB.out.size))
    have T2 := hid (HT.out.below hb1 HT.out.lt)
    obtain ⟨q1, q2, q3, q4⟩ := T2.out.cells
    have HC0 := hid ((T2.out.set0 (.int .i64 0)).set1 (.slice none 0 0))
    clear hsy hb1
    go_wp2_with fail
    obtain ⟨p1, p2, p3, p4⟩ := HC0.out.cells
    refine bodyPost_ret (v := .tuple #[.agg #[.int .i64 0, .slice none 0 0], .int .i64 (-1)]) (by simp [results, Try.results53, go_sem, q1, q2]) rfl ?_
    exact LbP.no HNB.out B2.out (by omega)
end Go.Proofs.Ytcikmgdfelejpaa
