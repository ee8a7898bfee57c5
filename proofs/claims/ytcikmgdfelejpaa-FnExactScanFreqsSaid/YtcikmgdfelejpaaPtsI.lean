/- The contract of partsOf. -/
import Derived.Test.YtcikmgdfelejpaaPts
namespace Go.Proofs.Ytcikmgdfelejpaa
open Go.RowKit
set_option linter.unusedVariables false

theorem OwnT.at_ {w : World} {base : Nat} {ao : Option Addr} {n c : Nat} {S : List (Int × Int × List Int)} {vs : List Value} (h : OwnT w base (.slice ao n c) S vs) (j : Nat) (hj : j < S.length) :
    ∃ g a c', ao = some ⟨g, 0, none⟩ ∧ w.cell? ⟨g, j * 3, none⟩ = some (.int .i64 (nthS S j).1) ∧ w.cell? ⟨g, j * 3 + 1, none⟩ = some (.int .i64 (nthS S j).2.1) ∧ w.cell? ⟨g, j * 3 + 2, none⟩ = some (.slice a (nthS S j).2.2.length c') ∧ Own w base 3 .i64 (.slice a (nthS S j).2.2.length c') (nthS S j).2.2 := by
  obtain ⟨_, hl, h2, h3, _⟩ := h
  have ho := h3 j hj
  obtain ⟨a, c', hy⟩ := ho.shape
  rcases h2.2 with ⟨_, h0⟩ | ⟨g, cap, cur, hv', _⟩
  · omega
  · cases hv'
    have hc := flS_at S vs S.length j hj
    have c0 := h2.cells (g := g) (by simp [Value.ownBlock]) (j * 3) _ hc.1
    have c1 := h2.cells (g := g) (by simp [Value.ownBlock]) (j * 3 + 1) _ hc.2.1
    have c2 := h2.cells (g := g) (by simp [Value.ownBlock]) (j * 3 + 2) _ hc.2.2
    rw [Addr.add_lit, Nat.zero_add] at c0 c1 c2
    rw [hy] at c2 ho
    exact ⟨g, a, c', rfl, c0, c1, c2, ho⟩
theorem OwnT.keepT {w w' : World} {base : Nat} {v : Value} {S : List (Int × Int × List Int)} {vs : List Value} (h : OwnT w base v S vs) (hs : w.heap.size ≤ w'.heap.size) (hk : ∀ (g : Nat) (cur : Array Value) (tt : TypeId), tt ≠ 85 → w.heap[g]? = some (.cells cur tt (0, 0)) → w'.heap[g]? = some (.cells cur tt (0, 0))) : OwnT w' base v S vs := by
  obtain ⟨h1, h2, h3, h4, h5⟩ := h
  refine ⟨Nat.le_trans h1 hs, h2, ⟨h3.1, ?_⟩, fun j hj => ?_, h5⟩
  · rcases h3.2 with h0 | ⟨g, cap, cur, hv, hg, hh, r⟩
    · exact .inl h0
    · exact .inr ⟨g, cap, cur, hv, hg, hk g cur 73 (by decide) hh, r⟩
  · have ho := h4 j hj
    refine ⟨Nat.le_trans ho.1 hs, ho.2.1, ?_⟩
    rcases ho.2.2 with h0 | ⟨g, cap, cur, hv, hg, hh, r⟩
    · exact .inl h0
    · exact .inr ⟨g, cap, cur, hv, hg, hk g cur 3 (by decide) hh, r⟩

theorem parts_no (ao : Option Addr) (cap : Nat) (L : List (Int × List Int)) (w : World) (hn : L.length ≤ 1048576) (hs : ∀ j, j < L.length → (nth L j).2.length ≤ 1048576) (hv : BRow w ao L) (hno : ¬ (L.length ≤ 1600 ∧ oksTo L L.length = true)) :
    Calls Try.prog 46 #[.slice ao L.length cap] w fun e w' => e = .returned (.tuple #[.slice none 0 0, .bool false]) ∧ Below w.heap.size w w' := by
  by_cases hl : (1600 : Int) < (L.length : Int)
  · clear hv hs
    go_enter Try.func46, Try.ntmps46
    go_wp2_with fail
    go_ret2
    exact ⟨rfl, Below.refl _ _⟩
  · have HI := hid (impl_shift ao cap L true w hn hs hv)
    rw [shR_no (up := true) (fun h => hno ⟨by omega, h.2⟩)] at HI
    clear hv hs hno
    go_enter Try.func46, Try.ntmps46
    go_wp2_with fail
    refine HI.out.mono ?_
    rintro e w1 ⟨v1, rfl, ho1, hb1⟩
    obtain ⟨d1, c1, rfl⟩ := ho1.shape
    have B1 := hid hb1
    clear ho1 hb1
    go_wp2_with fail
    go_ret2
    exact ⟨rfl, B1.out⟩

set_option maxRecDepth 100000 in
set_option maxHeartbeats 1600000 in
theorem parts_yes (ao : Option Addr) (cap : Nat) (L : List (Int × List Int)) (w : World) (hl : L.length ≤ 1600) (hok : oksTo L L.length = true) (hv : BRow w ao L) :
    Calls Try.prog 46 #[.slice ao L.length cap] w fun e w' => ∃ v, e = .returned (.tuple #[v, .bool true]) ∧ OwnP w' w.heap.size v (ptsTo L L.length) ∧ Below w.heap.size w w' := by
  have hs : ∀ j, j < L.length → (nth L j).2.length ≤ 1048576 := fun j hj => by
    have := oksTo_at L L.length hok j hj
    unfold blkOk at this
    simp only [Bool.and_eq_true, decide_eq_true_eq] at this
    omega
  have HI := hid (impl_shift ao cap L true w (by omega) hs hv)
  rw [shR_yes (up := true) (by omega) hok] at HI
  have HV := hid hv
  have HSZ := hid hs
  have HOK := hid (oksTo_at L L.length hok)
  have HDF := hid (fun k hk => df_bd L k hok hk)
  have HPL := hid (fun k hk => ptsTo_len L hok k hk)
  have HG := hid (fun i hi => shl_get true L L.length i hi)
  have HLN := hid (shl_len true L L.length)
  have hl' : ¬ (1600 : Int) < (L.length : Int) := by omega
  clear hv hs hok
  generalize shl true L L.length = ST at *
  go_enter Try.func46, Try.ntmps46
  go_wp2_with fail
  refine HI.out.mono ?_
  rintro e w1 ⟨v1, rfl, ho1, hb1⟩
  obtain ⟨d1, c1, rfl, hv1⟩ := ho1.view
  simp only [HLN.out] at hv1 ⊢
  have HV1 := hid hv1
  have B1 := hid hb1
  have HO0 := hid (OwnP.empty w1 w1.heap.size (Nat.le_refl _))
  have HBA := hid ((Below.refl w1.heap.size w1).alloc (Nat.le_refl _) (.cells #[] 85))
  clear ho1 hb1 hv1 HI
  go_wp2_with fail
  generalize w1.alloc (.cells #[] 85) = wa at *
  go_loopw [6, 25] (fun p i wr => ∃ k : Nat, k ≤ L.length ∧ i = .int .i64 k ∧ Hid (OwnP wr w1.heap.size p (ptsTo L k)) ∧ Hid (Below w1.heap.size w1 wr)) (fun _ i _ => L.length - (intOf i).toNat)
  case atStart => exact ⟨0, by omega, rfl, HO0.out, HBA.out⟩
  case round =>
    obtain ⟨k, hk, rfl, hown, hb⟩ := hrel
    clear HO0 HBA
    obtain ⟨po, pc, rfl⟩ := hown.out.shape
    by_cases hlt : k < L.length
    · have hlt' : (k : Int) < (L.length : Int) := by omega
      have hpl := HPL.out k hk
      have HBW := hid (B1.out.trans (hb.out.mono B1.out.size))
      obtain ⟨b, off, a, c, rfl, hc1w, hc2w, hvw⟩ := HV.out k hlt
      have hc1 := (HBW.out.cell (p := ⟨b, off + k * 2, none⟩) (World.block_lt_of_cell? w _ hc1w)).trans hc1w
      have hc2 := (HBW.out.cell (p := ⟨b, off + k * 2 + 1, none⟩) (World.block_lt_of_cell? w _ hc2w)).trans hc2w
      clear hc1w hc2w
      obtain ⟨b2, off2, rfl, hd2⟩ := HV1.out.2 k hlt
      have hd : wr.cell? ⟨b2, off2 + k, none⟩ = some (.int .i64 (df L k)) := by
        rw [(hb.out.cell (p := ⟨b2, off2 + k, none⟩) (World.block_lt_of_cell? w1 _ hd2)).trans hd2, HG.out k hlt]; rfl
      have hdf := HDF.out k hlt
      have HF := hid (stepsR_fine _ _ (HOK.out k hlt))
      have hxl := HSZ.out k hlt
      have HPN := hid (show ptsTo L (k + 1) = ptsTo L k ++ [.inl (0, (sz (df L k))), .inr (restL (df L k))] ++ ptsS (stepsR (nth L k).1 (nth L k).2) (stepsR (nth L k).1 (nth L k).2).length from rfl)
      have HBC := hid ((Below.refl wr.heap.size wr).alloc (Nat.le_refl _) (.cells #[.int .i64 (nth L k).1, .slice a (nth L k).2.length c] 71))
      have HT := hid (Two.new wr (.int .i64 (nth L k).1) (.slice a (nth L k).2.length c) 71)
      have HIS := hid (fun q (hq : Below w.heap.size w q) => impl_steps (.agg #[.int .i64 (nth L k).1, .slice a (nth L k).2.length c]) (nth L k).1 (nth L k).2 q hxl ⟨a, c, rfl, hvw.below (Nat.le_refl _) hq⟩)
      have HO2 := hid (hown.out.below HBC.out)
      have hsr : w1.heap.size ≤ wr.heap.size := hb.out.size
      have hd' : (wr.alloc (.cells #[.int .i64 (nth L k).1, .slice a (nth L k).2.length c] 71)).cell? ⟨b2, off2 + k, none⟩ = some (.int .i64 (df L k)) := (HBC.out.cell (p := ⟨b2, off2 + k, none⟩) (World.block_lt_of_cell? wr _ hd)).trans hd
      generalize stepsR (nth L k).1 (nth L k).2 = S at *
      generalize (nth L k).1 = D at *
      generalize (nth L k).2 = XS at *
      generalize df L k = X at *
      generalize hP : ptsTo L k = PK at *
      clear hvw hP hd hd2
      obtain ⟨hX0, hX1⟩ := hdf
      go_wp2_with fail
      refine (impl_size X _ (by omega) (by omega)).mono ?_
      rintro e w2 ⟨rfl, rfl⟩
      have HRS := hid (fun q => impl_rest X q (by omega) (by omega))
      go_wp2_with fail
      refine (HRS.out _).mono ?_
      generalize wr.alloc (.cells #[.int .i64 D, .slice a XS.length c] 71) = w2 at *
      rintro e w3 ⟨v3, rfl, ho3, hb3⟩
      obtain ⟨ya, yc, rfl⟩ := ho3.shape
      have HO3 := hid (HO2.out.below hb3)
      have HT3 := hid (HT.out.below hb3 HT.out.lt)
      have HB3 := hid (HBC.out.trans (hb3.mono HBC.out.size))
      have HY3 := hid (ho3.mono (Nat.le_trans hsr HBC.out.size))
      have hs3 : wr.heap.size < w3.heap.size := Nat.lt_of_lt_of_le HT.out.lt hb3.size
      clear ho3 hb3 hc1 hc2 hd' HRS
      go_wp2_with (at_builtin; refine wpList_pushP w3 w3.heap.size rfl rfl _ _ 81 rfl w1.heap.size Try.underlying81 Try.info85 _ PK (by rfl) HO3.out 0 (sz X) (.slice ya (restL X).length yc) (restL X) HY3.out (by rfl) (by omega) ?_)
      intro v4 w4 ho4 hb4 hkp4
      obtain ⟨p4, q4, rfl⟩ := ho4.shape
      have HT4 := hid (show Two w4 wr.heap.size (.int .i64 D) (.slice a XS.length c) 71 from hkp4 _ _ 71 (by decide) HT3.out)
      have HB34 := hid ((HB3.out.mono hsr).trans hb4)
      have HB4 := hid (hb.out.trans HB34.out)
      have HO4 := hid ho4
      have HBW4 := hid (B1.out.trans (HB4.out.mono B1.out.size))
      clear ho4 hb4 hkp4 HO3 HT3 HY3 HB3 HB34 HO2 HT HBC hown hb HBW
      obtain ⟨q1, q2, q3, q4⟩ := HT4.out.cells
      go_wp2_with fail
      refine (HIS.out _ HBW4.out).mono ?_
      rintro e w5 ⟨v5, rfl, ⟨vs, hot⟩, hb5⟩
      obtain ⟨so, sc, rfl⟩ := hot.shape
      have HO5 := hid (HO4.out.below hb5)
      have HB5 := hid (HB4.out.trans (hb5.mono HB4.out.size))
      have HOT := hid hot
      have hw4 : w1.heap.size ≤ w4.heap.size := HB4.out.size
      have HPS0 := hid (show PK ++ [.inl (0, (sz X)), .inr (restL X)] ++ ptsS S 0 = PK ++ [.inl (0, (sz X)), .inr (restL X)] by simp [ptsS])
      have hSl := HF.out.1
      have HPLN := hid (show (PK ++ [Sum.inl (0, (sz X)), Sum.inr (restL X)]).length = PK.length + 2 by simp)
      clear hot hb5 HO4 HB4 HIS HBW4 HT4 q1 q2 q3 q4
      generalize PK ++ [Sum.inl (0, (sz X)), Sum.inr (restL X)] = PJ at *
      go_wp2_with fail
      go_loopw [6, 48] (fun p j wq => ∃ m : Nat, m ≤ S.length ∧ j = .int .i64 m ∧ Hid (OwnP wq w1.heap.size p (PJ ++ ptsS S m)) ∧ Hid (OwnT wq w4.heap.size (.slice so S.length sc) S vs) ∧ Hid (Below w1.heap.size w1 wq)) (fun _ j _ => S.length - (intOf j).toNat)
      case atStart => exact ⟨0, by omega, rfl, by rw [HPS0.out]; exact HO5.out, HOT.out, HB5.out⟩
      case round =>
        obtain ⟨m, hm, rfl, hp, ht, hb⟩ := hrel
        clear HO5 HOT HB5 HPS0
        obtain ⟨p5, c5, rfl⟩ := hp.out.shape
        by_cases hlt2 : m < S.length
        · have hlt2' : (m : Int) < (S.length : Int) := by omega
          obtain ⟨g, ya', yc', rfl, r0, r1, r2, hoy⟩ := ht.out.at_ m hlt2
          have hfi := HF.out.2 m hlt2
          have HNX := hid (show PJ ++ ptsS S (m + 1) = PJ ++ ptsS S m ++ [.inl (1, (16 * (nthS S m).1 + (nthS S m).2.1)), .inr (nthS S m).2.2] by rw [ptsS, List.append_assoc])
          have HML := hid (show (PJ ++ ptsS S m).length < 1000000000 by rw [List.length_append, ptsS_len, HPLN.out]; omega)
          generalize (nthS S m).1 = R at *
          generalize (nthS S m).2.1 = N at *
          generalize (nthS S m).2.2 = BT at *
          generalize PJ ++ ptsS S m = PM at *
          obtain ⟨⟨f0, f1⟩, ⟨f2, f3⟩, f4⟩ := hfi
          have hml := HML.out
          have HBC2 := hid ((Below.refl wr.heap.size wr).alloc (Nat.le_refl _) (.cells #[.int .i64 R, .int .i64 N, .slice ya' BT.length yc'] 73))
          have HP2 := hid (hp.out.below HBC2.out)
          have HT2 := hid (ht.out.below HBC2.out)
          have HY2 := hid ((hoy.below HBC2.out).mono hw4)
          have HB2 := hid (hb.out.trans (HBC2.out.mono hb.out.size))
          clear hoy hp ht hb HML
          go_wp2_with (at_builtin; refine wpList_pushP (wr.alloc (.cells #[.int .i64 R, .int .i64 N, .slice ya' BT.length yc'] 73)) (wr.heap.size + 1) (by simp) rfl _ _ 81 rfl w1.heap.size Try.underlying81 Try.info85 _ PM (by rfl) HP2.out 1 (16 * R + N) (.slice ya' BT.length yc') BT HY2.out (by rfl) hml ?_)
          intro v6 w6 ho6 hb6 hkp6
          obtain ⟨p6, c6, rfl⟩ := ho6.shape
          have HO6 := hid ho6
          have HT6 := hid (HT2.out.keepT hb6.size hkp6)
          have HB6 := hid (HB2.out.trans hb6)
          clear ho6 hb6 hkp6
          go_wp2_with fail
          go_roundw
          case rel => exact ⟨m + 1, by omega, by go_num, by rw [HNX.out]; exact HO6.out, HT6.out, HB6.out⟩
          case measure => simp [intOf]; omega
        · obtain rfl : m = S.length := by omega
          have HPN2 := hid HPN.out
          go_wp2_with fail
          go_roundw
          case rel => exact ⟨k + 1, by omega, by go_num, by rw [HPN2.out]; exact hp.out, hb.out⟩
          case measure => simp [intOf]; omega
    · obtain rfl : k = L.length := by omega
      go_wp2_with fail
      go_ret2
      exact ⟨_, rfl, hown.out.mono B1.out.size, B1.out.trans (hb.out.mono B1.out.size)⟩
end Go.Proofs.Ytcikmgdfelejpaa
