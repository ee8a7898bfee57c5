/- The contract of ScanBits of the specification. -/
import Derived.Test.YtcikmgdfelejpaaJScL
import Derived.Test.YtcikmgdfelejpaaJGg
import Derived.Deep.CutRange
namespace Go.Proofs.Ytcikmgdfelejpaa
open Go.RowKit Go.Maps
set_option linter.unusedVariables false

/-- What the loop of blocks keeps: the bits so far in 'out', apart from what was made ahead of the loop. -/
def Kp (wA wr : World) (b0 : Nat) (out : Value) (r : List Int) : Prop :=
  Own wr b0 3 .i64 out r ∧ Far out (b0 + 1) wA.heap.size ∧ Mid (b0 + 1) wA.heap.size wA wr ∧ Below b0 wA wr ∧ (∃ g c, out = .slice (some ⟨g, 0, none⟩) r.length c) ∧ wA.heap.size ≤ wr.heap.size
theorem Kp.below {wA w w' : World} {b0 : Nat} {out : Value} {r : List Int} (h : Kp wA w b0 out r) (hb : Below w.heap.size w w') : Kp wA w' b0 out r := by
  obtain ⟨h1, h2, h3, h4, h5, h6⟩ := h
  exact ⟨h1.below hb, h2, h3.trans (Mid.ofBelow hb h6), h4.trans (hb.mono h1.1), h5, Nat.le_trans h6 hb.size⟩
theorem Kp.drew {wA w : World} {b0 : Nat} {out : Value} {r : List Int} (h : Kp wA w b0 out r) : Kp wA w.drew b0 out r := h.below (Below.refl _ _).drew
theorem Kp.app {wA w w' : World} {b0 : Nat} {out v' : Value} {r zs : List Int} (h : Kp wA w b0 out r) (ha : AppP w b0 out zs v' w') : Kp wA w' b0 v' zs := by
  obtain ⟨h1, h2, h3, h4, ⟨g, c, rfl⟩, h6⟩ := h
  obtain ⟨f1, f2⟩ := ha.far h2 h6
  exact ⟨ha.1, f1, h3.trans f2, h4.trans (ha.below h1), ha.some, Nat.le_trans h6 ha.2.1.size⟩
theorem Kp.mid {wA w : World} {b0 : Nat} {out : Value} {r : List Int} (h : Kp wA w b0 out r) : ∀ g, b0 + 1 ≤ g → g < wA.heap.size → w.heap[g]? = wA.heap[g]? := h.2.2.1
theorem Kp.keep {wA w : World} {b0 B : Nat} {out : Value} {r : List Int} (h : Kp wA w b0 out r) (hB : b0 + 1 ≤ B) : ∀ g, B ≤ g → g < wA.heap.size → w.heap[g]? = wA.heap[g]? := fun g h0 h1 => h.mid g (by omega) h1
/-- The same for what the steps of one block hold. -/
def Kq (B : Nat) (wS wq : World) (out : Value) : Prop := Far out B wS.heap.size ∧ Mid B wS.heap.size wS wq ∧ wS.heap.size ≤ wq.heap.size
theorem Kq.below {B : Nat} {wS w w' : World} {out : Value} (h : Kq B wS w out) (hb : Below w.heap.size w w') : Kq B wS w' out := ⟨h.1, h.2.1.trans (Mid.ofBelow hb h.2.2), Nat.le_trans h.2.2 hb.size⟩
theorem Kq.app {B base : Nat} {wS w w' : World} {out v' : Value} {zs : List Int} (h : Kq B wS w out) (ha : AppP w base out zs v' w') : Kq B wS w' v' := by
  obtain ⟨f1, f2⟩ := ha.far h.1 h.2.2
  exact ⟨f1, h.2.1.trans f2, Nat.le_trans h.2.2 ha.2.1.size⟩
theorem Kp.belowW {wA w w0 : World} {b0 : Nat} {out : Value} {r : List Int} (h : Kp wA w b0 out r) (hb : Below w0.heap.size w0 wA) (hw : w0.heap.size ≤ b0) : Below w0.heap.size w0 w := hb.trans (h.2.2.2.1.mono hw)
theorem AllAt.mono {w : World} {base base' : Nat} {v : Value} {K : List (Nat × Int)} (h : AllAt w base v K) (hb : base' ≤ base) : AllAt w base' v K := by
  obtain ⟨vs, t1, t2, t3⟩ := h
  refine ⟨vs, t1, ⟨Nat.le_trans hb t2.1, t2.2.1, ?_⟩, fun p x hx => by obtain ⟨y, t4, t5⟩ := t3 p x hx; exact ⟨y, t4, t5.mono hb⟩⟩
  rcases t2.2.2 with h0 | ⟨g, cap, cur, hv, hg, r⟩
  · exact .inl h0
  · exact .inr ⟨g, cap, cur, hv, Nat.le_trans hb hg, r⟩
/-- The same step, what comes out of it under a name of its own. -/
theorem step_appZ {P : Program} {ops : Array Oper} {o : Oper} {a : Act} {K : Act → World → Prop} {Q : Exit → Act → World → Prop} {E : Prop} (w : World) (hgd : o.guard = none) (s x : Operand) (t : TypeId)
    (ho : o.op = .call { callee := .builtin .append, args := #[s, x], argTypes := #[t, t] })
    (base : Nat) (ht : P.underlying t = some (.slice 3)) (hinfo : (P.info? 3).map (fun i => (i.zero, i.size, i.bytes)) = some (some (.int .i64 0), 1, 8))
    (v : Value) (xs : List Int) (hs : a.eval s = v) (hown : Own w base 3 .i64 v xs) (hne : ∃ g n c, v = .slice (some ⟨g, 0, none⟩) n c) (yb : Nat) (y : Value) (ys : List Int) (hx : a.eval x = y) (hy : Own w yb 3 .i64 y ys)
    (hlen : xs.length + ys.length < 1000000000000) (zs : List Int) (hzs : zs = xs ++ ys) (h : ∀ v' w', AppP w base v zs v' w' → K (a.put o.dst v') w') :
    if Region.wanted o (yielded ops a.tmps) = true then Oper.wp P o a w K Q else E := by
  subst hzs
  exact step_appX w hgd s x t ho base ht hinfo v xs hs hown hne yb y ys hx hy hlen h
theorem OwnT.fix {w : World} {base : Nat} {ao : Option Addr} {n c : Nat} {S : List (Int × Int × List Int)} {vs : List Value} (h : OwnT w base (.slice ao n c) S vs) (j : Nat) (hj : j < S.length) :
    ∃ g a c', ao = some ⟨g, 0, none⟩ ∧ ∀ w' : World, w.heap.size ≤ w'.heap.size → (∀ g, base ≤ g → g < w.heap.size → w'.heap[g]? = w.heap[g]?) →
      w'.cell? ⟨g, j * 3, none⟩ = some (.int .i64 (nthS S j).1) ∧ w'.cell? ⟨g, j * 3 + 1, none⟩ = some (.int .i64 (nthS S j).2.1) ∧ w'.cell? ⟨g, j * 3 + 2, none⟩ = some (.slice a (nthS S j).2.2.length c') ∧ Own w' base 3 .i64 (.slice a (nthS S j).2.2.length c') (nthS S j).2.2 := by
  obtain ⟨g, a, c', rfl, _, _, c2, _⟩ := h.at_ j hj
  refine ⟨g, a, c', rfl, fun w' hs hk => ?_⟩
  obtain ⟨g', a', c'', e, d0, d1, d2, do_⟩ := (h.keepM hs hk).at_ j hj
  cases e
  have hbg : base ≤ g ∧ g < w.heap.size := h.2.2.1.lt g rfl
  have e2 : w'.cell? ⟨g, j * 3 + 2, none⟩ = w.cell? ⟨g, j * 3 + 2, none⟩ := World.cell?_of_block (w := w) (a := ⟨g, j * 3 + 2, none⟩) (hk g hbg.1 hbg.2)
  rw [d2, c2] at e2
  cases e2
  exact ⟨d0, d1, d2, do_⟩
theorem code0 (T : Tb) (x : Int) : T.code 0 x = codeL T.cs T.ss x := rfl
theorem code1 (T : Tb) (x : Int) : T.code 1 x = codeL T.ct T.st x := rfl

set_option maxRecDepth 100000 in
set_option maxHeartbeats 3200000 in
theorem spec_scanBits (v : Value) (T : Tb) (ao : Option Addr) (cap : Nat) (L : List (Int × List Int)) (w : World) (h0 : T.cs.length ≤ 1048576) (h1 : T.ss.length ≤ 1048576) (h2 : T.ct.length ≤ 1048576) (h3 : T.st.length ≤ 1048576)
    (hn : L.length ≤ 1048576) (hs : ∀ j, j < L.length → (nth L j).2.length ≤ 1048576) (ht : TV w v T.cs T.ss T.ct T.st) (hv : BRow w ao L) :
    Calls Try.prog 11 #[v, .slice ao L.length cap] w (ScP (scanR T L) w) := by
  obtain ⟨a0, c0, a1, c1, a2, c2, a3, c3, rfl, u0, u1⟩ := ht
  have hA := (Below.refl w.heap.size w).alloc (Nat.le_refl _) (.cells #[.slice a0 T.cs.length c0, .slice a1 T.ss.length c1, .slice a2 T.ct.length c2, .slice a3 T.st.length c3] 34)
  have hsA : (w.alloc (.cells #[.slice a0 T.cs.length c0, .slice a1 T.ss.length c1, .slice a2 T.ct.length c2, .slice a3 T.st.length c3] 34)).heap.size = w.heap.size + 1 := by simp
  have hBB := (Below.refl (w.alloc (.cells #[.slice a0 T.cs.length c0, .slice a1 T.ss.length c1, .slice a2 T.ct.length c2, .slice a3 T.st.length c3] 34)).heap.size _).alloc (Nat.le_refl _) (.cells #[] 3)
  have HF1 := hid ((Four.new w (.slice a0 T.cs.length c0) (.slice a1 T.ss.length c1) (.slice a2 T.ct.length c2) (.slice a3 T.st.length c3) 34).below hBB (Four.new w _ _ _ _ 34).lt)
  have HO1 := hid (Own.empty (w.alloc (.cells #[.slice a0 T.cs.length c0, .slice a1 T.ss.length c1, .slice a2 T.ct.length c2, .slice a3 T.st.length c3] 34)) 3 .i64 (w.heap.size + 1) (by rw [hsA]; exact Nat.le_refl _))
  rw [hsA] at HO1
  have HB1 := hid (hA.trans (hBB.mono hA.size))
  have HSB := hid (show ((w.alloc (.cells #[.slice a0 T.cs.length c0, .slice a1 T.ss.length c1, .slice a2 T.ct.length c2, .slice a3 T.st.length c3] 34)).alloc (.cells #[] 3)).heap.size = w.heap.size + 2 by simp)
  have HV := hid hv
  have HU0 := hid (fun q (hq : Below w.heap.size w q) => u0.below hq)
  have HU1 := hid (fun q (hq : Below w.heap.size w q) => u1.below hq)
  have HK1 := hid (fun q (hq : Below w.heap.size w q) => spec_ok _ T.cs T.ss q h0 h1 (u0.below hq))
  have HK2 := hid (fun q (hq : Below w.heap.size w q) => spec_ok _ T.ct T.st q h2 h3 (u1.below hq))
  have HSH := hid (fun q (hq : Below w.heap.size w q) => spec_shift ao cap L true q hn hs (hv.below hq))
  clear u0 u1 hA hBB hsA hv hs
  go_enter Try.func11, Try.ntmps11
  go_wp2_with fail
  refine (HSH.out _ HB1.out).mono ?_
  generalize (w.alloc (.cells #[.slice a0 T.cs.length c0, .slice a1 T.ss.length c1, .slice a2 T.ct.length c2, .slice a3 T.st.length c3] 34)).alloc (.cells #[] 3) = wb at *
  rintro e w1 ⟨v1, rfl, ho1, hb1⟩
  have B1 := hid (HB1.out.trans (hb1.mono HB1.out.size))
  have F1 := hid (HF1.out.below hb1 HF1.out.lt)
  have O1 := hid (HO1.out.below hb1)
  have BB1 := hid hb1
  clear hb1
  obtain ⟨q0, q1, q2, q3⟩ := F1.out.cells
  obtain ⟨d1, e1, rfl⟩ := ho1.shape
  by_cases hr1 : rightC T.cs T.ss = true
  · rw [hr1] at HK1
    by_cases hr2 : rightC T.ct T.st = true
    · rw [hr2] at HK2
      have HR := hid (show T.right from ⟨hr1, hr2⟩)
      by_cases hk : scanOk L
      · have hRR := shR_yes (up := true) (show L.length ≤ 4000 by have := hk.1; omega) hk.2
        have hl' : ¬ (1600 : Int) < (L.length : Int) := by have := hk.1; omega
        have hok : (shR true L).2 = true := by rw [hRR]
        have hl1 : (shR true L).1 = shl true L L.length := by rw [hRR]
        have HRES := hid (scanR_raw HR.out hk)
        have HOK := hid (oksTo_at L L.length hk.2)
        have HDF := hid (fun k hk' => df_bd L k hk.2 hk')
        have hlen16 := hk.1
        rw [hok] at *
        rw [hl1] at ho1
        have HLN := hid (shl_len true L L.length)
        have HG := hid (fun i hi => shl_get true L L.length i hi)
        simp only [hl1, HLN.out]
        have HD1 := hid ho1
        clear ho1 hok hl1 hRR
        generalize shl true L L.length = ST at *
        go_wp2_with fail
        refine (HK1.out _ B1.out).mono ?_
        rintro e w2 ⟨rfl, hb2⟩
        have B2 := hid (B1.out.trans (hb2.mono B1.out.size))
        have F2 := hid (F1.out.below hb2 F1.out.lt)
        have O2 := hid (O1.out.below hb2)
        have D2 := hid (HD1.out.below hb2)
        clear hb2 F1 q0 q1 q2 q3
        obtain ⟨q0, q1, q2, q3⟩ := F2.out.cells
        go_wp2_with fail
        refine (HK2.out _ B2.out).mono ?_
        rintro e w3 ⟨rfl, hb3⟩
        have B3 := hid (B2.out.trans (hb3.mono B2.out.size))
        have F3 := hid (F2.out.below hb3 F2.out.lt)
        have O3 := hid (O2.out.below hb3)
        have D3 := hid (D2.out.below hb3)
        clear hb3 F2 q0 q1 q2 q3 O1 O2 D2 HD1 B1 B2 HK1 HK2 HSH HF1 HO1
        obtain ⟨q0, q1, q2, q3⟩ := F3.out.cells
        have HFC := hid (fun q (hq : Below w3.heap.size w3 q) => (F3.out.below hq F3.out.lt).cells)
        have HN1 := hid (fun q (hq : Below w.heap.size w q) => all_codes (.agg #[.slice a0 T.cs.length c0, .slice a1 T.ss.length c1]) T.cs T.ss q hr1 (HU0.out q hq))
        have HN2 := hid (fun q (hq : Below w.heap.size w q) => all_codes (.agg #[.slice a2 T.ct.length c2, .slice a3 T.st.length c3]) T.ct T.st q hr2 (HU1.out q hq))
        go_wp2_with fail
        go_region_held3 (fun q => q.cell? ⟨w.heap.size, 0, none⟩ = some (.slice a0 T.cs.length c0) ∧ q.cell? ⟨w.heap.size, 1, none⟩ = some (.slice a1 T.ss.length c1) ∧ q.cell? ⟨w.heap.size, 2, none⟩ = some (.slice a2 T.ct.length c2) ∧ q.cell? ⟨w.heap.size, 3, none⟩ = some (.slice a3 T.st.length c3)) (go_keep) (first
          | (go_at_call 38; have hX := hcA; refine (HN2.out _ ?_).mono ?_; · first | exact B3.out.trans (hcA.mono B3.out.size) | exact B3.out.trans ((hcA.trans ((Below.refl _ _).drew.mono hcA.size)).mono B3.out.size)
             rintro e w5 ⟨v5, rfl, hk2, hb5⟩
             have hcB : Below w3.heap.size w3 w5 := by first | exact hcA.trans (hb5.mono hcA.size) | exact hcA.trans ((Below.trans (Below.refl _ _).drew hb5).mono hcA.size)
             have hk1' : AllAt w5 w3.heap.size v4 (keysTo T.cs 16) := by first | exact hk1.below hb5 | exact (hk1.below (Below.refl _ _).drew).below hb5
             have hk2' : AllAt w5 w3.heap.size v5 (keysTo T.ct 16) := hk2.mono hcA.size
             obtain ⟨f0, f1, f2, f3⟩ := HFC.out _ hcB)
          | (go_at_call 38; refine (HN1.out _ ?_).mono ?_; · first | exact B3.out | exact B3.out.trans ((Below.refl _ _).drew.mono B3.out.size)
             rintro e w4 ⟨v4, rfl, hk1, hb4⟩
             have hcA : Below w3.heap.size w3 w4 := by first | exact hb4 | exact Below.trans (Below.refl _ _).drew hb4
             obtain ⟨g0, g1, g2, g3⟩ := HFC.out _ hcA))
        all_goals
          have B5 := hid (B3.out.trans (hcB.mono B3.out.size))
          have F5 := hid (F3.out.below hcB F3.out.lt)
          have O5 := hid (O3.out.below hcB)
          have D5 := hid (D3.out.below hcB)
          have A5 := hid hk1'
          have hwb : w.heap.size + 2 ≤ w3.heap.size := by
            have h1 := D3.out.1
            rw [HSB.out] at h1
            exact h1
          have C5 := hid hk2'
          clear hcA hcB hk1 hk1' hk2 hk2' hb4 hb5 F3 O3 D3 HN1 HN2 HFC q0 q1 q2 q3 f0 f1 f2 f3 g0 g1 g2 g3
          have hb0 : w3.heap.size ≤ w5.heap.size := A5.out.lt
          have HKP := hid (show Kp w5 w5 (w.heap.size + 1) (.slice (some ⟨w.heap.size + 1, 0, none⟩) 0 0) [] from ⟨O5.out, fun g hg => by simp [Value.ownBlock] at hg; omega, Mid.refl _ _ _, Below.refl _ _, ⟨_, _, rfl⟩, Nat.le_refl _⟩)
          obtain ⟨v4o, v4c, rfl⟩ : ∃ a c, v4 = .slice a (keysTo T.cs 16).length c := by
            obtain ⟨vs, t1, t2, _⟩ := A5.out
            obtain ⟨a, c, e⟩ := t2.shape
            exact ⟨a, c, by rw [e, t1]⟩
          obtain ⟨v5o, v5c, rfl⟩ : ∃ a c, v5 = .slice a (keysTo T.ct 16).length c := by
            obtain ⟨vs, t1, t2, _⟩ := C5.out
            obtain ⟨a, c, e⟩ := t2.shape
            exact ⟨a, c, by rw [e, t1]⟩
          have HFB := hid (fun (q : World) (o : Value) (r : List Int) (hq : Kp w5 q (w.heap.size + 1) o r) => (F5.out.below hq.2.2.2.1 (Nat.lt_succ_self _)))
          have HBQ := hid (fun (q : World) (o : Value) (r : List Int) (hq : Kp w5 q (w.heap.size + 1) o r) => hq.belowW B5.out (Nat.le_succ _))
          have HAQ := hid (fun (q : World) (o : Value) (r : List Int) (hq : Kp w5 q (w.heap.size + 1) o r) => A5.out.keepM hq.2.2.2.2.2 (hq.keep (by omega)))
          have HCQ := hid (fun (q : World) (o : Value) (r : List Int) (hq : Kp w5 q (w.heap.size + 1) o r) => C5.out.keepM hq.2.2.2.2.2 (hq.keep (by omega)))
          have HDQ := hid (fun (q : World) (o : Value) (r : List Int) (hq : Kp w5 q (w.heap.size + 1) o r) => (show Own q wb.heap.size 3 .i64 (.slice d1 ST.length e1) ST from by
            have := D5.out.keepM hq.2.2.2.2.2 (hq.keep (by rw [HSB.out]; exact Nat.le_refl _))
            exact this))
          clear A5 C5 O5 F5 D5
          go_wp2_with fail
          go_loopw [6, 11] (fun o i wr => ∃ (k : Nat) (r : List Int), k ≤ L.length ∧ i = .int .i64 k ∧ Hid (raw T (ptsTo L k) = some r) ∧ r.length ≤ 480000 ∧ Hid (Kp w5 wr (w.heap.size + 1) o r)) (fun _ i _ => L.length - (intOf i).toNat)
          case atStart => exact ⟨0, [], by omega, rfl, rfl, by simp, HKP.out⟩
          case round =>
            obtain ⟨k, r, hk', rfl, hraw, hr480, hkp⟩ := hrel
            clear HKP
            have HBW := hid (HBQ.out wr _ _ hkp.out)
            obtain ⟨_, _, _, _, ⟨og, oc, rfl⟩, _⟩ := hkp.out
            by_cases hlt : k < L.length
            · have hlt' : (k : Int) < (L.length : Int) := by omega
              have hdf := HDF.out k hlt
              have F := hid (HFB.out wr _ _ hkp.out)
              have hvd : View .i64 wr d1 ST.length ST := by
                obtain ⟨x, c, e, h⟩ := (HDQ.out wr _ _ hkp.out).view
                cases e
                exact h
              obtain ⟨b2, off2, rfl, hd0⟩ := hvd.2 k (by rw [HLN.out]; exact hlt)
              have HDC := hid (fun (q : World) (o : Value) (r : List Int) (hq : Kp w5 q (w.heap.size + 1) o r) => (show q.cell? ⟨b2, off2 + k, none⟩ = some (.int .i64 (df L k)) from by
                obtain ⟨x, c, e, h⟩ := (HDQ.out q _ _ hq).view
                cases e
                obtain ⟨b3, off3, e3, h3⟩ := h.2 k (by rw [HLN.out]; exact hlt)
                cases e3
                rw [h3, HG.out k hlt]
                rfl))
              have hd := HDC.out wr _ _ hkp.out
              have HLC := hid (fun q (hq : Below wr.heap.size wr q) => (show Calls Try.prog 39 #[.agg #[.slice a0 T.cs.length c0, .slice a1 T.ss.length c1], .slice v4o (keysTo T.cs 16).length v4c, .int .i64 (sz (df L k))] q fun e w' => ∃ v', e = .returned v' ∧ Own w' w3.heap.size 3 .i64 v' (T.code 0 (sz (df L k))) ∧ Below q.heap.size q w' from l04_code _ _ T.cs T.ss (sz (df L k)) w3.heap.size q hr1 h1 (HU0.out q (HBW.out.trans (hq.mono HBW.out.size))) ((HAQ.out wr _ _ hkp.out).below hq)))
              have HZ0 := hid (fun hc => at_zero hraw.out hc)
              have HZN := hid (fun hc => at_zero_no hlt hraw.out hc)
              have hcl := code_len T HR.out 0 (sz (df L k))
              have hrl := restL_len (df L k)
              have HSI := hid (fun q => spec_size (df L k) q (by omega) (by omega))
              have HRS := hid (fun q => spec_rest (df L k) q (by omega) (by omega))
              have HFW := hid (fun q (hq : Below wr.heap.size wr q) => (F.out.below hq F.out.lt).cells)
              have HF := hid (stepsR_fine _ _ (HOK.out k hlt))
              obtain ⟨q0, q1, q2, q3⟩ := F.out.cells
              clear hd0 hvd
              generalize T.code 0 (sz (df L k)) = CODE at *
              generalize restL (df L k) = RST at *
              generalize hX : df L k = X at *
              clear hX
              go_wp2_with fail
              go_region_held3 (fun q => q.cell? ⟨w.heap.size, 0, none⟩ = some (.slice a0 T.cs.length c0) ∧ q.cell? ⟨w.heap.size, 1, none⟩ = some (.slice a1 T.ss.length c1) ∧ q.cell? ⟨b2, off2 + k, none⟩ = some (.int .i64 X)) (go_keep) (first
                | (go_at_call 40; refine (HSI.out _).mono ?_; rintro e w6 ⟨rfl, rfl⟩)
                | (go_at_call 39; refine (HLC.out _ ?_).mono ?_; · first | exact Below.refl _ _ | exact (Below.refl _ _).drew
                   rintro e w7 ⟨v7, rfl, ho7, hb7⟩
                   have hc7 : Below wr.heap.size wr w7 := by first | exact hb7 | exact Below.trans (Below.refl _ _).drew hb7
                   have hk7 := hkp.out.below hc7
                   obtain ⟨f0, f1, f2, f3⟩ := HFW.out _ hc7
                   have fd := HDC.out w7 _ _ hk7))
              all_goals
                obtain ⟨y7, c7, rfl⟩ := ho7.shape
                have HY7 := hid ho7
                have KP7 := hid hk7
                have HB7 := hid (HBQ.out w7 _ _ hk7)
                clear ho7 hb7 hc7 hk7 HLC HSI HFW F q0 q1 q2 q3 f0 f1 f2 f3 hd
                by_cases hz : CODE.length = 0
                · have HRN := hid (HRES.out.trans (by rw [HZN.out hz]; rfl : _ = (none : Option (List Int))))
                  have hz' : ((CODE.length : Int) == 0) = true := beq_iff_eq.2 (by omega)
                  clear hz
                  go_wp2_with fail
                  go_ret2
                  rw [HRN.out]
                  exact ScP.no HB7.out
                · have hz' : ((CODE.length : Int) == 0) = false := beq_eq_false_iff_ne.2 (by omega)
                  have HZ := hid (HZ0.out (by omega))
                  clear hz
                  go_wp2_with fail
                  have HRL1 := hid (show r.length + CODE.length < 1000000000000 by omega)
                  obtain ⟨R1, hR1⟩ : ∃ R1, R1 = r ++ CODE := ⟨_, rfl⟩
                  obtain ⟨R2, hR2⟩ : ∃ R2, R2 = R1 ++ RST := ⟨_, rfl⟩
                  have HRL2 := hid (show R1.length + RST.length < 1000000000000 by rw [hR1, List.length_append]; omega)
                  have HRL3 := hid (show R2.length ≤ 480000 + 27 by rw [hR2, hR1, List.length_append, List.length_append]; omega)
                  have HZ2 := hid (show raw T (ptsAt L k 0) = some R2 by rw [hR2, hR1]; exact HZ.out)
                  have HR1 := hid hR1
                  have HR2 := hid hR2
                  clear hR1 hR2 HZ
                  have hog : og < w7.heap.size := KP7.out.1.ge.2
                  go_cut [6] from 47 to 118 (fun s wx => Kp w5 wx (w.heap.size + 1) s R2)
                  case first =>
                    go_region_held3 (fun q => q.cell? ⟨b2, off2 + k, none⟩ = some (.int .i64 X)) (go_keep) (first
                      | (have hX := hk9; refine step_appZ w9 rfl (.tmp 68) (.tmp 73) 22 rfl (w.heap.size + 1) Try.underlying22 Try.info3 _ R1 (by rfl) hk9.1 ⟨g8, _, _, rfl⟩ w8.heap.size _ RST (by rfl) ho9 HRL2.out R2 HR2.out ?_
                         intro v10 w10 hp10
                         obtain ⟨g10, c10, rfl⟩ := hp10.some
                         have hk10 := hk9.app hp10
                         have fd10 := HDC.out w10 _ _ hk10)
                      | (have hX := kk9; refine step_appZ u9 rfl (.tmp 68) (.tmp 73) 22 rfl (w.heap.size + 1) Try.underlying22 Try.info3 _ R1 (by rfl) kk9.1 ⟨t9, _, _, rfl⟩ w7.heap.size _ RST (by rfl) hr9 HRL2.out R2 HR2.out ?_
                         intro v10 w10 hp10
                         obtain ⟨g10, c10, rfl⟩ := hp10.some
                         have hk10 := kk9.app hp10
                         have fd10 := HDC.out w10 _ _ hk10)
                      | (go_at_call 41; have hX := hk8'; refine (HRS.out _).mono ?_
                         rintro e w9 ⟨v9, rfl, ho9, hb9⟩
                         obtain ⟨y9, c9, rfl⟩ := ho9.shape
                         have hk9 := hk8'.below hb9
                         have fd9 := HDC.out w9 _ _ hk9)
                      | (have hX := kk8; refine step_appZ u8 rfl (.tmp 66) (.tmp 67) 22 rfl (w.heap.size + 1) Try.underlying22 Try.info3 _ r (by rfl) kk8.1 ⟨og, _, _, rfl⟩ w3.heap.size _ CODE (by rfl) hy8 HRL1.out R1 HR1.out ?_
                         intro v9' u9 hp9
                         have kk9 := kk8.app hp9
                         obtain ⟨t9, c9, rfl⟩ := hp9.some
                         have hr9 := hr8.keepM hp9.2.1.size (fun g h0 h1 => hp9.2.1.block g h1 (fun e => by simp [Value.ownBlock] at e; omega))
                         have fd9 := HDC.out u9 _ _ kk9)
                      | (have hk8 := KP7.out.drew; refine step_appZ w7.drew rfl (.tmp 66) (.tmp 67) 22 rfl (w.heap.size + 1) Try.underlying22 Try.info3 _ r (by rfl) hk8.1 ⟨og, _, _, rfl⟩ w3.heap.size _ CODE (by rfl) HY7.out.drew1 HRL1.out R1 HR1.out ?_
                         intro v8 w8 hp8
                         obtain ⟨g8, c8, rfl⟩ := hp8.some
                         have hk8' := hk8.app hp8
                         have fd8 := HDC.out w8 _ _ hk8')
                      | (go_at_call 41; refine (HRS.out _).mono ?_
                         rintro e u8 ⟨v8', rfl, ho8', hb8'⟩
                         obtain ⟨y8, c8, rfl⟩ := ho8'.shape
                         have kk8 : Kp w5 u8 (w.heap.size + 1) (.slice (some ⟨og, 0, none⟩) r.length oc) r := by first | exact KP7.out.below hb8' | exact KP7.out.drew.below hb8'
                         have hy8 : Own u8 w3.heap.size 3 .i64 (.slice y7 CODE.length c7) CODE := by first | exact HY7.out.below hb8' | exact HY7.out.drew1.below hb8'
                         have hr8 : Own u8 w7.heap.size 3 .i64 (.slice y8 RST.length c8) RST := ho8'
                         have fd8 := HDC.out u8 _ _ kk8))
                    all_goals
                      clear fd
                      go_wp2_with fail
                      go_meet
                      exact hk10
                  case rest =>
                    generalize hwc : wc = wx at *
                    clear hwc
                    have KPX := hid hcut
                    have HBX := hid (HBQ.out wx _ _ hcut)
                    obtain ⟨_, _, _, _, ⟨xg, xc, rfl⟩, _⟩ := hcut
                    have hxg : xg < wx.heap.size := KPX.out.1.ge.2
                    obtain ⟨b, off, a, c, rfl, hc1w, hc2w, hvw⟩ := HV.out k hlt
                    have hc1 := (HBX.out.cell (p := ⟨b, off + k * 2, none⟩) (World.block_lt_of_cell? w _ hc1w)).trans hc1w
                    have hc2 := (HBX.out.cell (p := ⟨b, off + k * 2 + 1, none⟩) (World.block_lt_of_cell? w _ hc2w)).trans hc2w
                    have hxl : (nth L k).2.length ≤ 1048576 := by
                      have h63 := HOK.out k hlt
                      unfold blkOk at h63
                      simp only [Bool.and_eq_true, decide_eq_true_eq] at h63
                      omega
                    have HIS := hid (spec_steps (.agg #[.int .i64 (nth L k).1, .slice a (nth L k).2.length c]) (nth L k).1 (nth L k).2 wx hxl ⟨a, c, rfl, hvw.below (Nat.le_refl _) HBX.out⟩)
                    have HST := hid (fun m r s (e : nthS (stepsR (nth L k).1 (nth L k).2) m = s) (h : raw T (ptsAt L k m) = some r) hc => at_step e h hc)
                    have HSN := hid (fun m r s (hm : m < (stepsR (nth L k).1 (nth L k).2).length) (e : nthS (stepsR (nth L k).1 (nth L k).2) m = s) (h : raw T (ptsAt L k m) = some r) hc => at_step_no hlt hm e h hc)
                    have HEND := hid (ptsAt_end L k)
                    have HBIG := hid (fun r (h : raw T (ptsTo L (k + 1)) = some r) hb => at_big hlt h hb)
                    clear hc1w hc2w hvw hxl HY7 KP7 HB7 HDC HRS HZ0 HZN fd hog HRL1 HRL2 HR1 HR2
                    generalize stepsR (nth L k).1 (nth L k).2 = S at *
                    generalize (nth L k).1 = D at *
                    generalize (nth L k).2 = XS at *
                    go_wp2_with fail
                    refine HIS.out.mono ?_
                    rintro e w8 ⟨v8, rfl, ⟨vs, hot⟩, hb8⟩
                    obtain ⟨so, sc, rfl⟩ := hot.shape
                    have HOT := hid hot
                    have KP8 := hid (KPX.out.below hb8)
                    have KQ8 := hid (show Kq wx.heap.size w8 w8 (.slice (some ⟨xg, 0, none⟩) R2.length xc) from ⟨fun g hg => by simp [Value.ownBlock] at hg; omega, Mid.refl _ _ _, Nat.le_refl _⟩)
                    have hr3 := HRL3.out
                    have hSl := HF.out.1
                    clear hot hb8 hc1 hc2 HIS KPX
                    go_wp2_with fail
                    go_loopw [6, 14] (fun o j wq => ∃ (m : Nat) (r : List Int), m ≤ S.length ∧ j = .int .i64 m ∧ Hid (raw T (ptsAt L k m) = some r) ∧ r.length ≤ 480000 + 27 * (m + 1) ∧ Hid (Kp w5 wq (w.heap.size + 1) o r) ∧ Hid (Kq wx.heap.size w8 wq o)) (fun _ j _ => S.length - (intOf j).toNat)
                    case atStart => exact ⟨0, R2, by omega, rfl, HZ2.out, by omega, KP8.out, KQ8.out⟩
                    case round =>
                      obtain ⟨m, r', hm, rfl, hraw', hrl', hkp', hkq⟩ := hrel
                      clear KP8 KQ8 HZ2
                      have HBW' := hid (HBQ.out wr _ _ hkp'.out)
                      obtain ⟨_, _, _, _, ⟨mg, mc, rfl⟩, _⟩ := hkp'.out
                      by_cases hlt2 : m < S.length
                      · have hlt2' : (m : Int) < (S.length : Int) := by omega
                        obtain ⟨g, ya, yc, rfl, hfix⟩ := HOT.out.fix m hlt2
                        have HFX := hid (fun (q : World) (o : Value) (hq : Kq wx.heap.size w8 q o) => hfix q hq.2.2 hq.2.1)
                        have F' := hid (HFB.out wr _ _ hkp'.out)
                        obtain ⟨⟨f0, f1⟩, ⟨f2, f3⟩, f4⟩ := HF.out.2 m hlt2
                        have HS1 := hid (fun hc => HST.out m r' _ rfl hraw'.out hc)
                        have HS2 := hid (fun hc => HSN.out m r' _ hlt2 rfl hraw'.out hc)
                        have hcl' := code_len T HR.out 1 (16 * (nthS S m).1 + (nthS S m).2.1)
                        have HLC2 := hid (fun q (hq : Below wr.heap.size wr q) => (show Calls Try.prog 39 #[.agg #[.slice a2 T.ct.length c2, .slice a3 T.st.length c3], .slice v5o (keysTo T.ct 16).length v5c, .int .i64 (16 * (nthS S m).1 + (nthS S m).2.1)] q fun e w' => ∃ v', e = .returned v' ∧ Own w' w3.heap.size 3 .i64 v' (T.code 1 (16 * (nthS S m).1 + (nthS S m).2.1)) ∧ Below q.heap.size q w' from l04_code _ _ T.ct T.st _ w3.heap.size q hr2 h3 (HU1.out q (HBW'.out.trans (hq.mono HBW'.out.size))) ((HCQ.out wr _ _ hkp'.out).below hq)))
                        have HFW' := hid (fun q (hq : Below wr.heap.size wr q) => (F'.out.below hq F'.out.lt).cells)
                        obtain ⟨s0, s1, s2, _⟩ := HFX.out wr _ hkq.out
                        obtain ⟨q0, q1, q2, q3⟩ := F'.out.cells
                        clear hfix
                        generalize T.code 1 (16 * (nthS S m).1 + (nthS S m).2.1) = CD at *
                        generalize (nthS S m).1 = RN at *
                        generalize (nthS S m).2.1 = SZ at *
                        generalize (nthS S m).2.2 = BT at *
                        have HWR := hid (show IntKind.i64.wrap (IntKind.i64.wrap (16 * RN) + SZ) = 16 * RN + SZ by
                          have e1 : IntKind.i64.wrap (16 * RN) = 16 * RN := by rw [IntKind.wrap_i64]; omega
                          rw [e1, IntKind.wrap_i64]
                          omega)
                        go_wp2_with fail
                        go_region_held3 (fun q => q.cell? ⟨w.heap.size, 2, none⟩ = some (.slice a2 T.ct.length c2) ∧ q.cell? ⟨w.heap.size, 3, none⟩ = some (.slice a3 T.st.length c3) ∧ q.cell? ⟨g, m * 3, none⟩ = some (.int .i64 RN) ∧ q.cell? ⟨g, m * 3 + 1, none⟩ = some (.int .i64 SZ)) (go_keep) (first
                          | (go_at_call 39; rw [HWR.out]; refine (HLC2.out _ ?_).mono ?_; · first | exact Below.refl _ _ | exact (Below.refl _ _).drew
                             rintro e w9 ⟨v9, rfl, ho9, hb9⟩
                             have hc9 : Below wr.heap.size wr w9 := by first | exact hb9 | exact Below.trans (Below.refl _ _).drew hb9
                             have hk9 := hkp'.out.below hc9
                             have hq9 := hkq.out.below hc9
                             obtain ⟨t0, t1, t2, t3⟩ := HFW'.out _ hc9
                             obtain ⟨p0, p1, p2, p3⟩ := HFX.out w9 _ hq9))
                        all_goals
                          obtain ⟨y9, c9, rfl⟩ := ho9.shape
                          have HY9 := hid ho9
                          have KP9 := hid hk9
                          have KQ9 := hid hq9
                          have HB9 := hid (HBQ.out w9 _ _ hk9)
                          clear ho9 hb9 hc9 hk9 hq9 HLC2 HFW' F' q0 q1 q2 q3 t0 t1 t2 t3 s0 s1 s2 p0 p1 p3
                          by_cases hz : CD.length = 0
                          · have HRN := hid (HRES.out.trans (by rw [HS2.out hz]; rfl : _ = (none : Option (List Int))))
                            have hz' : ((CD.length : Int) == 0) = true := beq_iff_eq.2 (by omega)
                            clear hz
                            go_wp2_with fail
                            go_ret2
                            rw [HRN.out]
                            exact ScP.no HB9.out
                          · have hz' : ((CD.length : Int) == 0) = false := beq_eq_false_iff_ne.2 (by omega)
                            have HZ := hid (HS1.out (by omega))
                            have HRL1 := hid (show r'.length + CD.length < 1000000000000 by omega)
                            obtain ⟨R1, hR1⟩ : ∃ R1, R1 = r' ++ CD := ⟨_, rfl⟩
                            obtain ⟨R3, hR3⟩ : ∃ R3, R3 = R1 ++ BT := ⟨_, rfl⟩
                            have HRL2 := hid (show R1.length + BT.length < 1000000000000 by rw [hR1, List.length_append]; omega)
                            have HRL4 := hid (show R3.length ≤ 480000 + 27 * (m + 1 + 1) by rw [hR3, hR1, List.length_append, List.length_append]; omega)
                            have HZ3 := hid (show raw T (ptsAt L k (m + 1)) = some R3 by rw [hR3, hR1]; exact HZ.out)
                            have HR1 := hid hR1
                            have HR3 := hid hR3
                            clear hR1 hR3 HZ hz
                            go_wp2_with fail
                            go_region_held3 (fun q => q.cell? ⟨g, m * 3 + 2, none⟩ = some (.slice ya BT.length yc)) (go_keep) (first
                              | (have hX := hk10; refine step_appZ w10 rfl (.tmp 108) (.tmp 113) 22 rfl (w.heap.size + 1) Try.underlying22 Try.info3 _ R1 (by rfl) hk10.1 ⟨g10, _, _, rfl⟩ wx.heap.size _ BT (by rfl) o10 HRL2.out R3 HR3.out ?_
                                 intro v11 w11 hp11
                                 obtain ⟨g11, c11, rfl⟩ := hp11.some
                                 have hk11 := hk10.app hp11
                                 have hq11 := hq10.app hp11
                                 obtain ⟨x0, x1, x2, _⟩ := HFX.out w11 _ hq11)
                              | (have hk9 := KP9.out.drew; have hq9 : Kq wx.heap.size w8 w9.drew _ := KQ9.out.below (Below.refl _ _).drew; refine step_appZ w9.drew rfl (.tmp 106) (.tmp 107) 22 rfl (w.heap.size + 1) Try.underlying22 Try.info3 _ r' (by rfl) hk9.1 ⟨mg, _, _, rfl⟩ w3.heap.size _ CD (by rfl) HY9.out.drew1 HRL1.out R1 HR1.out ?_
                                 intro v10 w10 hp10
                                 obtain ⟨g10, c10, rfl⟩ := hp10.some
                                 have hk10 := hk9.app hp10
                                 have hq10 := hq9.app hp10
                                 obtain ⟨z0, z1, z2, o10⟩ := HFX.out w10 _ hq10))
                            all_goals
                              have KP11 := hid hk11
                              have KQ11 := hid hq11
                              have hr4 := HRL4.out
                              clear hk11 hq11 x0 x1 x2 z0 z1 z2 o10 hk10 hq10 hk9 hq9 hp10 hp11 p2
                              go_wp2_with fail
                              go_roundw
                              case rel => exact ⟨m + 1, R3, by omega, by go_num, HZ3.out, by omega, KP11.out, KQ11.out⟩
                              case measure => simp [intOf]; omega
                      · obtain rfl : m = S.length := by omega
                        have HRW := hid (show raw T (ptsTo L (k + 1)) = some r' by rw [← HEND.out]; exact hraw'.out)
                        by_cases hbig : 480000 < r'.length
                        · have hbig' : (480000 : Int) < (r'.length : Int) := by omega
                          have HRN := hid (HRES.out.trans (HBIG.out r' HRW.out hbig))
                          clear hbig
                          go_wp2_with fail
                          go_ret2
                          rw [HRN.out]
                          exact ScP.no HBW'.out
                        · have hbig' : ¬ (480000 : Int) < (r'.length : Int) := by omega
                          go_wp2_with fail
                          go_roundw
                          case rel => exact ⟨k + 1, r', by omega, by go_num, HRW.out, by omega, hkp'.out⟩
                          case measure => simp [intOf]; omega
            · obtain rfl : k = L.length := by omega
              have HRR := hid (HRES.out.trans (at_all hraw.out hr480))
              have HOF := hid (hkp.out.1.mono (Nat.le_succ w.heap.size))
              go_wp2_with fail
              go_ret2
              rw [HRR.out]
              exact ⟨_, rfl, HOF.out, HBW.out⟩
      · have HRN := hid (scanR_no (T := T) (L := L) (fun h => hk h.2))
        have hcase : (shR true L).2 = false ∨ (shR true L).2 = true ∧ 1600 < L.length := by
          by_cases h : L.length ≤ 4000 ∧ oksTo L L.length = true
          · refine .inr ⟨by rw [shR_yes h.1 h.2], ?_⟩
            have : ¬ L.length ≤ 1600 := fun h' => hk ⟨h', h.2⟩
            omega
          · exact .inl (by rw [shR_no h])
        clear hk ho1
        go_wp2_with fail
        refine (HK1.out _ B1.out).mono ?_
        rintro e w2 ⟨rfl, hb2⟩
        have B2 := hid (B1.out.trans (hb2.mono B1.out.size))
        have F2 := hid (F1.out.below hb2 F1.out.lt)
        have O2 := hid (O1.out.below hb2)
        clear hb2 F1 q0 q1 q2 q3
        obtain ⟨q0, q1, q2, q3⟩ := F2.out.cells
        go_wp2_with fail
        refine (HK2.out _ B2.out).mono ?_
        rintro e w3 ⟨rfl, hb3⟩
        have B3 := hid (B2.out.trans (hb3.mono B2.out.size))
        have O3 := hid ((O2.out.below hb3).mono (Nat.le_succ w.heap.size))
        clear hb3 F2 q0 q1 q2 q3
        rcases hcase with hc | ⟨hc, hl⟩
        · rw [hc]
          go_wp2_with fail
          go_ret2
          rw [HRN.out]
          exact ⟨_, rfl, O3.out, B3.out⟩
        · have hl' : (1600 : Int) < (L.length : Int) := by omega
          rw [hc]
          go_wp2_with fail
          go_ret2
          rw [HRN.out]
          exact ⟨_, rfl, O3.out, B3.out⟩
    · have hr2' : rightC T.ct T.st = false := by simpa using hr2
      have HRN := hid (scanR_no (T := T) (L := L) (fun h => hr2 h.1.2))
      rw [hr2'] at HK2
      clear ho1
      go_wp2_with fail
      refine (HK1.out _ B1.out).mono ?_
      rintro e w2 ⟨rfl, hb2⟩
      have B2 := hid (B1.out.trans (hb2.mono B1.out.size))
      have F2 := hid (F1.out.below hb2 F1.out.lt)
      have O2 := hid (O1.out.below hb2)
      clear hb2 F1 q0 q1 q2 q3
      obtain ⟨q0, q1, q2, q3⟩ := F2.out.cells
      go_wp2_with fail
      refine (HK2.out _ B2.out).mono ?_
      rintro e w3 ⟨rfl, hb3⟩
      have B3 := hid (B2.out.trans (hb3.mono B2.out.size))
      have O3 := hid ((O2.out.below hb3).mono (Nat.le_succ w.heap.size))
      clear hb3 F2 q0 q1 q2 q3
      go_wp2_with fail
      go_ret2
      rw [HRN.out]
      exact ⟨_, rfl, O3.out, B3.out⟩
  · have hr1' : rightC T.cs T.ss = false := by simpa using hr1
    have HRN := hid (scanR_no (T := T) (L := L) (fun h => hr1 h.1.1))
    rw [hr1'] at HK1
    clear ho1
    go_wp2_with fail
    refine (HK1.out _ B1.out).mono ?_
    rintro e w2 ⟨rfl, hb2⟩
    have B2 := hid (B1.out.trans (hb2.mono B1.out.size))
    have O2 := hid ((O1.out.below hb2).mono (Nat.le_succ w.heap.size))
    clear hb2 F1 q0 q1 q2 q3
    go_wp2_with fail
    go_ret2
    rw [HRN.out]
    exact ⟨_, rfl, O2.out, B2.out⟩
end Go.Proofs.Ytcikmgdfelejpaa
