/- The contract of ScanBlocks of the specification. -/
import Derived.Test.YtcikmgdfelejpaaJRdV
import Derived.Test.YtcikmgdfelejpaaJRdW
import Derived.Test.YtcikmgdfelejpaaJScS
namespace Go.Proofs.Ytcikmgdfelejpaa
open Go.RowKit Go.Maps
set_option linter.unusedVariables false

/-- All blocks but those of blocks are as they were. -/
def Kept (w w' : World) : Prop := w.heap.size ≤ w'.heap.size ∧ ∀ (g : Nat) (cur : Array Value) (t : TypeId), t ≠ 71 → w.heap[g]? = some (.cells cur t (0, 0)) → w'.heap[g]? = some (.cells cur t (0, 0))
theorem Kept.refl (w : World) : Kept w w := ⟨Nat.le_refl _, fun _ _ _ _ h => h⟩
theorem Kept.trans {a b c : World} (h : Kept a b) (k : Kept b c) : Kept a c := ⟨Nat.le_trans h.1 k.1, fun g cur t ht hg => k.2 g cur t ht (h.2 g cur t ht hg)⟩
theorem Kept.ofBelow {w w' : World} (h : Below w.heap.size w w') : Kept w w' := ⟨h.size, fun g cur t ht hg => (h.block g (Array.getElem?_eq_some_iff.1 hg).1).trans hg⟩
theorem OwnK.kept {w w' : World} {base : Nat} {v : Value} {L : List (Int × List Int)} {vs : List Value} {o : Obj} (h : OwnK w base v L vs) (hg : (w.alloc o).grownBy w' v.ownBlock) : Kept w w' := by
  refine ⟨Nat.le_trans (by simp) hg.size, fun g cur t ht hh => ?_⟩
  have hglt : g < w.heap.size := (Array.getElem?_eq_some_iff.1 hh).1
  have h1 : (w.alloc o).heap[g]? = some (.cells cur t (0, 0)) := (((Below.refl w.heap.size w).alloc (Nat.le_refl _) _).block g hglt).trans hh
  refine (hg.block g (Nat.lt_trans hglt (by simp)) ?_).trans h1
  intro eq
  rcases h.2.2.1.2 with ⟨hv, _⟩ | ⟨g', cap, cur', hv, hg', hh', _⟩
  · subst hv; cases eq
  · subst hv
    have : g = g' := by simpa [Value.ownBlock] using eq
    subst this
    rw [hh] at hh'
    cases hh'
    exact ht rfl
theorem AllAt.kept {w w' : World} {base : Nat} {v : Value} {K : List (Nat × Int)} (h : AllAt w base v K) (hk : Kept w w') : AllAt w' base v K := by
  obtain ⟨vs, t1, t2, t3⟩ := h
  refine ⟨vs, t1, ⟨Nat.le_trans t2.1 hk.1, t2.2.1, ?_⟩, fun p x hx => ?_⟩
  · rcases t2.2.2 with h0 | ⟨g, cap, cur, hv, hg, hh, r⟩
    · exact .inl h0
    · exact .inr ⟨g, cap, cur, hv, hg, hk.2 g cur _ (by decide) hh, r⟩
  · obtain ⟨y, t4, t5⟩ := t3 p x hx
    refine ⟨y, t4, Nat.le_trans t5.1 hk.1, t5.2.1, ?_⟩
    rcases t5.2.2 with h0 | ⟨g, cap, cur, hv, hg, hh, r⟩
    · exact .inl h0
    · exact .inr ⟨g, cap, cur, hv, hg, hk.2 g cur _ (by decide) hh, r⟩
theorem SbP.none_ {w w' : World} {v : Value} {base : Nat} (ho : OwnK w' base v [] []) (hb : Below w.heap.size w w') (hbs : w.heap.size ≤ base) : SbP none w (.returned (.tuple #[v, .int .i64 0, .bool false])) w' :=
  ⟨hb, v, rfl, ho.mono hbs⟩

set_option maxRecDepth 100000 in
set_option maxHeartbeats 3200000 in
theorem spec_scanBlocks (v : Value) (T : Tb) (ao : Option Addr) (cap : Nat) (xs : List Int) (n : Int) (w : World) (h0 : T.cs.length ≤ 1048576) (h1 : T.ss.length ≤ 1048576) (h2 : T.ct.length ≤ 1048576) (h3 : T.st.length ≤ 1048576)
    (hx : xs.length ≤ 1048576) (hsl : SlOk ao xs.length cap) (ht : TV w v T.cs T.ss T.ct T.st) (hv : View .i64 w ao xs.length xs) :
    Calls Try.prog 22 #[v, .slice ao xs.length cap, .int .i64 n] w (SbP (sbR T xs n) w) := by
  obtain ⟨a0, c0, a1, c1, a2, c2, a3, c3, rfl, u0, u1⟩ := ht
  have hA := (Below.refl w.heap.size w).alloc (Nat.le_refl _) (.cells #[.slice a0 T.cs.length c0, .slice a1 T.ss.length c1, .slice a2 T.ct.length c2, .slice a3 T.st.length c3] 34)
  have hsA : (w.alloc (.cells #[.slice a0 T.cs.length c0, .slice a1 T.ss.length c1, .slice a2 T.ct.length c2, .slice a3 T.st.length c3] 34)).heap.size = w.heap.size + 1 := by simp
  have hBB := (Below.refl (w.alloc (.cells #[.slice a0 T.cs.length c0, .slice a1 T.ss.length c1, .slice a2 T.ct.length c2, .slice a3 T.st.length c3] 34)).heap.size _).alloc (Nat.le_refl _) (.cells #[] 71)
  have HF1 := hid ((Four.new w (.slice a0 T.cs.length c0) (.slice a1 T.ss.length c1) (.slice a2 T.ct.length c2) (.slice a3 T.st.length c3) 34).below hBB (Four.new w _ _ _ _ 34).lt)
  have HO1 := hid (OwnK.empty (w.alloc (.cells #[.slice a0 T.cs.length c0, .slice a1 T.ss.length c1, .slice a2 T.ct.length c2, .slice a3 T.st.length c3] 34)) (w.heap.size + 1) (by rw [hsA]; exact Nat.le_refl _))
  rw [hsA] at HO1
  have HB1 := hid (hA.trans (hBB.mono hA.size))
  have HV := hid hv
  have HSL := hid hsl
  have HU0 := hid (fun q (hq : Below w.heap.size w q) => u0.below hq)
  have HU1 := hid (fun q (hq : Below w.heap.size w q) => u1.below hq)
  have HK1 := hid (fun q (hq : Below w.heap.size w q) => spec_ok _ T.cs T.ss q h0 h1 (u0.below hq))
  have HK2 := hid (fun q (hq : Below w.heap.size w q) => spec_ok _ T.ct T.st q h2 h3 (u1.below hq))
  have HIN := hid (fun q => spec_in n 0 1600 q)
  clear u0 u1 hA hBB hsA hv hsl
  obtain ⟨q0, q1, q2, q3⟩ := HF1.out.cells
  go_enter Try.func22, Try.ntmps22
  go_wp2_with fail
  refine (HK1.out _ HB1.out).mono ?_
  generalize (w.alloc (.cells #[.slice a0 T.cs.length c0, .slice a1 T.ss.length c1, .slice a2 T.ct.length c2, .slice a3 T.st.length c3] 34)).alloc (.cells #[] 71) = wb at *
  rintro e w2 ⟨rfl, hb2⟩
  have B2 := hid (HB1.out.trans (hb2.mono HB1.out.size))
  have F2 := hid (HF1.out.below hb2 HF1.out.lt)
  have O2 := hid (HO1.out.below hb2)
  clear hb2 HF1 HO1 q0 q1 q2 q3
  obtain ⟨q0, q1, q2, q3⟩ := F2.out.cells
  by_cases hr1 : rightC T.cs T.ss = true
  · rw [hr1]
    go_wp2_with fail
    refine (HK2.out _ B2.out).mono ?_
    rintro e w3 ⟨rfl, hb3⟩
    have B3 := hid (B2.out.trans (hb3.mono B2.out.size))
    have F3 := hid (F2.out.below hb3 F2.out.lt)
    have O3 := hid (O2.out.below hb3)
    clear hb3 F2 O2 q0 q1 q2 q3
    obtain ⟨q0, q1, q2, q3⟩ := F3.out.cells
    by_cases hr2 : rightC T.ct T.st = true
    · rw [hr2]
      have HR := hid (show T.right from ⟨hr1, hr2⟩)
      go_wp2_with fail
      refine (HIN.out _).mono ?_
      rintro e w3' ⟨rfl, rfl⟩
      by_cases hn : 0 ≤ n ∧ n ≤ 1600
      · have hd : decide (0 ≤ n ∧ n ≤ 1600) = true := by simpa using hn
        rw [hd]
        clear hd
        by_cases hl : xs.length ≤ 480000
        · have hl' : (xs.length : Int) ≤ 480000 := by omega
          by_cases hall : AllBits xs
          · have HOK := hid (show sbOk T xs n from ⟨HR.out, hn, hl, hall⟩)
            obtain ⟨m, rfl⟩ : ∃ m : Nat, n = (m : Int) := ⟨n.toNat, by omega⟩
            have hn1 := hn.1
            have hn2 := hn.2
            have HAL := hid hall
            have HAB := hid (specBits_yes ao xs.length cap xs w3 (by omega) (HV.out.below (Nat.le_refl _) B3.out) hall)
            clear hn hall
            go_wp2_with fail
            refine HAB.out.mono ?_
            rintro e w3' ⟨rfl, rfl⟩
            have HFC := hid (fun q (hq : Below w3.heap.size w3 q) => (F3.out.below hq F3.out.lt).cells)
            have HN1 := hid (fun q (hq : Below w.heap.size w q) => all_codes (.agg #[.slice a0 T.cs.length c0, .slice a1 T.ss.length c1]) T.cs T.ss q hr1 (HU0.out q hq))
            have HN2 := hid (fun q (hq : Below w.heap.size w q) => all_codes (.agg #[.slice a2 T.ct.length c2, .slice a3 T.st.length c3]) T.ct T.st q hr2 (HU1.out q hq))
            go_wp2_with fail
            go_region_held3 (fun q => q.cell? ⟨w.heap.size, 0, none⟩ = some (.slice a0 T.cs.length c0) ∧ q.cell? ⟨w.heap.size, 1, none⟩ = some (.slice a1 T.ss.length c1) ∧ q.cell? ⟨w.heap.size, 2, none⟩ = some (.slice a2 T.ct.length c2) ∧ q.cell? ⟨w.heap.size, 3, none⟩ = some (.slice a3 T.st.length c3)) (go_keep) (first
              | (go_at_call 38; have hX := hcA; refine (HN2.out _ ?_).mono ?_; · first | exact B3.out.trans (hcA.mono B3.out.size) | exact B3.out.trans ((hcA.trans ((Below.refl _ _).drew.mono hcA.size)).mono B3.out.size)
                 rintro e w5 ⟨v5, rfl, hk2, hb5⟩
                 have hcB : Below w3.heap.size w3 w5 := by first | exact hcA.trans (hb5.mono hcA.size) | exact hcA.trans ((Below.trans (Below.refl _ _).drew hb5).mono hcA.size)
                 have hk1' : AllAt w5 w3.heap.size v4 (keysTo T.cs 16) := by first | exact hk1.below hb5 | exact (hk1.below (Below.refl _ _).drew).below hb5
                 have hk2' : AllAt w5 w3.heap.size v5 (keysTo T.ct 16) := hk2.mono hcA.size
                 obtain ⟨f0, f1, f2, f3⟩ := HFC.out _ hcB)
              | (go_at_call 38; refine (HN1.out _ ?_).mono ?_; · first | exact B3.out | exact B3.out.trans ((Below.refl _ _).drew.mono B3.out.size)
                 rintro e w4 ⟨v4, rfl, hk1, hb4⟩
                 have hcA : Below w3.heap.size w3 w4 := by first | exact hb4 | exact Below.trans (Below.refl _ _).drew hb4
                 obtain ⟨g0, g1, g2, g3⟩ := HFC.out _ hcA))
            all_goals
              have B5 := hid (B3.out.trans (hcB.mono B3.out.size))
              have F5 := hid (F3.out.below hcB F3.out.lt)
              have O5 := hid (O3.out.below hcB)
              have A5 := hid hk1'
              have C5 := hid hk2'
              have hw3 : w.heap.size + 1 ≤ w3.heap.size := F3.out.lt
              have hw5 : w3.heap.size ≤ w5.heap.size := hcB.size
              clear hcA hcB hk1 hk1' hk2 hk2' hb4 hb5 F3 O3 HN1 HN2 HFC q0 q1 q2 q3 f0 f1 f2 f3 g0 g1 g2 g3 HK1 HK2 HIN HAB
              go_wp2_with fail
              go_loopw [9, 12, 13] (fun l at_ ah wr => ∃ (k p : Nat) (d : Int) (L : List (Int × List Int)) (vs : List Value), (k ≤ m ∧ p ≤ xs.length ∧ -1023 ≤ d ∧ d ≤ 1023) ∧ at_ = .int .i64 p ∧ ah = .int .i64 d ∧ (∃ lo lc, l = .slice lo k lc) ∧ Hid (blkTo T xs k = some (L, p, d) ∧ L.length = k) ∧ Hid (OwnK wr (w.heap.size + 1) l L vs) ∧ Hid (Kept w5 wr) ∧ Hid (Below (w.heap.size + 1) w5 wr)) (fun l _ _ _ => match l with | .slice _ k _ => m - k | _ => 0)
              case atStart => exact ⟨0, 0, 0, [], [], ⟨by omega, by omega, by decide, by decide⟩, rfl, rfl, ⟨_, _, rfl⟩, ⟨rfl, rfl⟩, O5.out, Kept.refl _, Below.refl _ _⟩
              case round =>
                obtain ⟨k, p, d, L, vs, ⟨hk, hp, hd1, hd2⟩, rfl, rfl, ⟨lo, lc, rfl⟩, hto, hown, hkp, hb⟩ := hrel
                have BW := hid (B5.out.trans (hb.out.mono (by omega)))
                have FW := hid (F5.out.below hb.out (by omega))
                obtain ⟨f0, f1, f2, f3⟩ := FW.out.cells
                have hwr : w5.heap.size ≤ wr.heap.size := hb.out.size
                by_cases hlt : k < m
                · have hlt' : (k : Int) < (m : Int) := by omega
                  have HBK := hid (spec_block T xs ao cap p w3.heap.size d a0 a1 a2 a3 T.cs.length c0 T.ss.length c1 T.ct.length c2 T.st.length c3 v4 v5 wr HR.out (by omega) hp (by omega) HAL.out HSL.out ⟨⟨T.cs, HU0.out _ BW.out⟩, A5.out.kept hkp.out⟩ ⟨⟨T.ct, HU1.out _ BW.out⟩, C5.out.kept hkp.out⟩ (HV.out.below (Nat.le_refl _) BW.out))
                  go_wp2_with fail
                  refine HBK.out.mono ?_
                  rintro e w6 ⟨⟨d', ac, p', v6, hib, rfl, hv6, hp'⟩ | ⟨hnb, rfl⟩, hb6⟩
                  · obtain ⟨yo, yc, rfl⟩ := hv6.shape
                    have hw6 : wr.heap.size ≤ w6.heap.size := hb6.size
                    have A7 := hid ((Below.refl w6.heap.size w6).alloc (Nat.le_refl _) (.cells #[.int .i64 d', .slice yo ac.length yc] 71))
                    have O6 := hown.out.below hb6
                    have O7 := hid (O6.below A7.out)
                    have HNE := hid (O6.ne (Nat.le_refl _))
                    have HY := hid ((hv6.mono (show w.heap.size + 1 ≤ wr.heap.size by omega)).below A7.out)
                    have HYB := hid (fun j (hj : j < L.length) (a a' : Addr) (n n' c c' : Nat) (e1 : vs.getD j (.bool false) = .slice (some a) n c) (e2 : Value.slice yo ac.length yc = .slice (some a') n' c') => (show a.block < a'.block by
                      have h1 := hown.out.lt j hj a n c e1
                      rw [e2] at hv6
                      have h2 := hv6.ge.1
                      omega))
                    have T7 := hid (Two.new w6 (.int .i64 d') (.slice yo ac.length yc) 71)
                    have K7 := hid ((hkp.out.trans (Kept.ofBelow hb6)).trans (Kept.ofBelow A7.out))
                    have W7 := hid (hb.out.trans ((hb6.trans (A7.out.mono hb6.size)).mono (by omega)))
                    have hdd : -1023 ≤ d' ∧ d' ≤ 1023 := by
                      obtain ⟨x, n', _, _, hc, _⟩ := hib
                      simpa [inC] using hc
                    have hd1' := hdd.1
                    have hd2' := hdd.2
                    have HTO := hid (blkTo_next hto.out.1 (bR_of hib))
                    have HL1 := hid (show (L ++ [(d', ac)]).length = k + 1 by simp [hto.out.2])
                    have hlen : L.length < 1000000000 := by have := hto.out.2; omega
                    clear hib hv6 hb6 O6 HBK hdd f0 f1 f2 f3
                    go_wp2_with (at_builtin; refine wpList_pushK (w6.alloc (.cells #[.int .i64 d', .slice yo ac.length yc] 71)) (w6.heap.size + 1) (by simp) rfl _ _ 36 rfl (w.heap.size + 1) Try.underlying36 Try.info71 _ L vs (by rfl) O7.out d' yo ac.length yc ac HY.out HYB.out (by rfl) hlen ?_)
                    generalize w6.alloc (.cells #[.int .i64 d', .slice yo ac.length yc] 71) = w7 at *
                    intro v8 w8 ho8 hb8 hg8
                    have T8 := hid (show Two w8 w6.heap.size (.int .i64 d') (.slice yo ac.length yc) 71 from (hg8.block w6.heap.size (by have := T7.out.lt; simp; omega) (fun e => HNE.out e.symm)).trans (T7.out.alloc _))
                    have K8 := hid (K7.out.trans (O7.out.kept hg8))
                    have W8 := hid (W7.out.trans hb8)
                    obtain ⟨lo8, lc8, hv8⟩ := ho8.shape
                    rw [HL1.out] at hv8
                    subst hv8
                    have O8 := hid ho8
                    obtain ⟨q1, q2, q3, q4⟩ := T8.out.cells
                    clear ho8 hb8 hg8
                    go_wp2_with fail
                    go_roundw
                    case rel => exact ⟨k + 1, p', d', L ++ [(d', ac)], _, ⟨by omega, hp', hd1', hd2'⟩, rfl, rfl, ⟨_, _, rfl⟩, ⟨HTO.out, HL1.out⟩, O8.out, K8.out, W8.out⟩
                    case measure => show m - (k + 1) < m - k; omega
                  · have HNO := hid (sbR_stop (blkTo_stop hto.out.1 (bR_no hnb) m hlt))
                    have A7 := hid ((Below.refl w6.heap.size w6).alloc (Nat.le_refl _) (.cells #[.int .i64 0, .slice none 0 0] 71))
                    have B7 := hid (BW.out.trans ((hb6.trans (A7.out.mono hb6.size)).mono BW.out.size))
                    clear hnb hb6 HBK f0 f1 f2 f3
                    go_wp2_with fail
                    refine bodyPost_ret (v := .tuple #[.slice (some ⟨w6.heap.size + 1, 0, none⟩) 0 0, .int .i64 0, .bool false]) (by simp [results, Try.results22, go_sem]) rfl ?_
                    rw [HNO.out]
                    exact SbP.no _ (by simp) B7.out
                · obtain rfl : k = m := by omega
                  have HYES := hid (sbR_yes HOK.out hto.out.1)
                  clear f0 f1 f2 f3
                  go_wp2_with fail
                  refine bodyPost_ret (v := .tuple #[.slice lo k lc, .int .i64 (p : Int), .bool true]) (by simp [results, Try.results22, go_sem]) rfl ?_
                  rw [HYES.out]
                  exact ⟨BW.out, _, _, rfl, hown.out.mono (by omega)⟩
          · have HNO := hid (sbR_no (T := T) (xs := xs) (n := n) (fun h => hall h.2.2.2))
            have HAB := hid (specBits_no ao xs.length cap xs w3 (by omega) (HV.out.below (Nat.le_refl _) B3.out) hall)
            clear hn hall
            go_wp2_with fail
            refine HAB.out.mono ?_
            rintro e w3' ⟨rfl, rfl⟩
            go_wp2_with fail
            refine bodyPost_ret (v := .tuple #[.slice (some ⟨w.heap.size + 1, 0, none⟩) 0 0, .int .i64 0, .bool false]) (by simp [results, Try.results22, go_sem]) rfl ?_
            rw [HNO.out]
            exact SbP.none_ O3.out B3.out (by omega)
        · have hl' : ¬ (xs.length : Int) ≤ 480000 := by omega
          have HNO := hid (sbR_no (T := T) (xs := xs) (n := n) (fun h => hl h.2.2.1))
          clear hn hl
          go_wp2_with fail
          refine bodyPost_ret (v := .tuple #[.slice (some ⟨w.heap.size + 1, 0, none⟩) 0 0, .int .i64 0, .bool false]) (by simp [results, Try.results22, go_sem]) rfl ?_
          rw [HNO.out]
          exact SbP.none_ O3.out B3.out (by omega)
      · have hd : decide (0 ≤ n ∧ n ≤ 1600) = false := by simpa using hn
        rw [hd]
        have HNO := hid (sbR_no (T := T) (xs := xs) (n := n) (fun h => hn h.2.1))
        clear hd hn
        go_wp2_with fail
        refine bodyPost_ret (v := .tuple #[.slice (some ⟨w.heap.size + 1, 0, none⟩) 0 0, .int .i64 0, .bool false]) (by simp [results, Try.results22, go_sem]) rfl ?_
        rw [HNO.out]
        exact SbP.none_ O3.out B3.out (by omega)
    · have hr2' : rightC T.ct T.st = false := by simpa using hr2
      rw [hr2']
      have HNO := hid (sbR_no (T := T) (xs := xs) (n := n) (fun h => hr2 h.1.2))
      go_wp2_with fail
      refine bodyPost_ret (v := .tuple #[.slice (some ⟨w.heap.size + 1, 0, none⟩) 0 0, .int .i64 0, .bool false]) (by simp [results, Try.results22, go_sem]) rfl ?_
      rw [HNO.out]
      exact SbP.none_ O3.out B3.out (by omega)
  · have hr1' : rightC T.cs T.ss = false := by simpa using hr1
    rw [hr1']
    have HNO := hid (sbR_no (T := T) (xs := xs) (n := n) (fun h => hr1 h.1.1))
    go_wp2_with fail
    refine bodyPost_ret (v := .tuple #[.slice (some ⟨w.heap.size + 1, 0, none⟩) 0 0, .int .i64 0, .bool false]) (by simp [results, Try.results22, go_sem]) rfl ?_
    rw [HNO.out]
    exact SbP.none_ O2.out B2.out (by omega)
end Go.Proofs.Ytcikmgdfelejpaa
