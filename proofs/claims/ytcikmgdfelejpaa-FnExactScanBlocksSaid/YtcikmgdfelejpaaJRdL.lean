/- The walk of the law FnExactScanBlocks. -/
import Derived.Test.YtcikmgdfelejpaaJRdX
import Derived.Test.YtcikmgdfelejpaaJRdM
import Derived.Test.YtcikmgdfelejpaaJTbX
import Derived.Test.YtcikmgdfelejpaaJMk
namespace Go.Proofs.Ytcikmgdfelejpaa
open Go.RowKit Go.Maps
set_option linter.unusedVariables false

set_option maxHeartbeats 800000 in
/-- A copy in new memory, never nil. -/
theorem toIntsG (ao : Option Addr) (n cap : Nat) (xs : List Int) (w : World) (hn : n ≤ 1048576) (hv : View .i64 w ao n xs) :
    Calls Try.prog 23 #[.slice ao n cap] w fun e w' => e = .returned (.slice (some ⟨w.heap.size, 0, none⟩) n n) ∧ Own w' w.heap.size 3 .i64 (.slice (some ⟨w.heap.size, 0, none⟩) n n) xs ∧ Below w.heap.size w w' := by
  have HV := show Hid _ from hv
  clear hv
  go_enter Try.func23, Try.ntmps23
  go_wp2_with (at_make; refine wpList_mkn w rfl _ _ 22 rfl w.heap.size 3 .i64 8 Try.underlying22 Try.info3 _ _ n rfl rfl (by omega) (by decide) (Nat.le_refl _) ?_)
  intro w0 hown0 hb0
  go_wp2
  go_loopw [4] (fun i wr => ∃ (k : Nat) (ys : List Int), k ≤ n ∧ i = .int .i64 k ∧ Own wr w.heap.size 3 .i64 (.slice (some ⟨w.heap.size, 0, none⟩) n n) ys ∧ Hid (ys.length = n ∧ ∀ j, j < k → ys.getD j 0 = xs.getD j 0) ∧ Below w.heap.size w wr) (fun i _ => n - (intOf i).toNat)
  case atStart => exact ⟨0, _, by omega, rfl, hown0, ⟨by simp, fun j hj => by omega⟩, hb0⟩
  case round =>
    obtain ⟨k, ys, hk, rfl, hown, hys, hb⟩ := hrel
    clear hown0 hb0
    by_cases hlt : k < n
    · obtain ⟨b, off, rfl, hc⟩ := HV.out.2 k hlt
      have hcr : wr.cell? ⟨b, off + k, none⟩ = some (.int .i64 (xs.getD k 0)) := (hb.cell (p := ⟨b, off + k, none⟩) (World.block_lt_of_cell? w _ hc)).trans hc
      have hold := hown.at k (by have := hys.out.1; omega)
      have hfree := hown.free k
      have hnew := hown.store k (xs.getD k 0)
      generalize hX : xs.getD k 0 = X at *
      have HX := show Hid _ from hX
      generalize ys.getD k 0 = Y at *
      clear hX hc
      go_wp2
      go_roundw
      case rel =>
        refine ⟨k + 1, _, by omega, by go_num, hnew, ⟨by simp; exact hys.out.1, fun j hj => ?_⟩, hb.setCell (p := ⟨w.heap.size, k, none⟩) (Nat.le_refl _) _⟩
        by_cases e : j = k
        · subst e
          rw [HX.out]
          simp [List.getD, hys.out.1, hlt]
        · rw [← hys.out.2 j (by omega)]
          simp [List.getD, show k ≠ j from fun h => e h.symm]
      case measure => simp [intOf]; omega
    · obtain rfl : k = n := by omega
      have hxy : ys = xs := list_eq_of_getD (by rw [hys.out.1, HV.out.1]) (fun i hi => hys.out.2 i (by rw [← hys.out.1]; exact hi))
      subst hxy
      go_wp2
      go_ret
      exact ⟨rfl, hown, hb⟩

theorem blkTo_bd {T : Tb} {xs : List Int} : ∀ {k p : Nat} {L : List (Int × List Int)} {d : Int}, blkTo T xs k = some (L, p, d) → L.length = k ∧ ∀ s ∈ L, s.2.length ≤ 63
  | 0, p, L, d, h => by cases h; exact ⟨rfl, fun s hs => by simp at hs⟩
  | k + 1, p, L, d, h => by
    rw [blkTo] at h
    cases ha : blkTo T xs k with
    | none => rw [ha] at h; cases h
    | some a =>
      rw [ha, Option.bind_some] at h
      have h' : (bR T xs a.2.1 a.2.2).bind (fun b => some (a.1 ++ [b.1], b.2, b.1.1)) = some (L, p, d) := h
      cases hb : bR T xs a.2.1 a.2.2 with
      | none => rw [hb] at h'; cases h'
      | some b =>
        rw [hb] at h'
        cases h'
        obtain ⟨i1, i2⟩ := blkTo_bd (L := a.1) (p := a.2.1) (d := a.2.2) ha
        obtain ⟨x, n, _, _, _, kk, LL, sk, _, _, h63⟩ := bR_is hb
        refine ⟨by simp [i1], fun s hs => ?_⟩
        simp only [List.mem_append, List.mem_singleton] at hs
        rcases hs with hs | rfl
        · exact i2 s hs
        · omega
/-- The blocks, the place and the word that ScanBlocks answers. -/
def sbL (T : Tb) (xs : List Int) (n : Int) : List (Int × List Int) := ((sbR T xs n).map (·.1)).getD []
def sbN (T : Tb) (xs : List Int) (n : Int) : Nat := ((sbR T xs n).map (·.2)).getD 0
def sbB (T : Tb) (xs : List Int) (n : Int) : Bool := (sbR T xs n).isSome
theorem sbL_bd (T : Tb) (xs : List Int) (n : Int) : (sbL T xs n).length ≤ 1600 ∧ ∀ s ∈ sbL T xs n, s.2.length ≤ 63 := by
  unfold sbL sbR
  by_cases h : sbOk T xs n
  · rw [if_pos h]
    have hn := h.2.1
    cases hb : blkTo T xs n.toNat with
    | none => exact ⟨by simp, fun s hs => by simp at hs⟩
    | some a =>
      obtain ⟨i1, i2⟩ := blkTo_bd (L := a.1) (p := a.2.1) (d := a.2.2) hb
      exact ⟨by show a.1.length ≤ 1600; omega, i2⟩
  · rw [if_neg h]
    exact ⟨by simp, fun s hs => by simp at hs⟩
theorem SbP.all {T : Tb} {xs : List Int} {n : Int} {w w' : World} {e : Ending} (h : SbP (sbR T xs n) w e w') : ∃ v vs, e = .returned (.tuple #[v, .int .i64 (sbN T xs n : Nat), .bool (sbB T xs n)]) ∧ OwnK w' w.heap.size v (sbL T xs n) vs ∧ Below w.heap.size w w' := by
  obtain ⟨hb, hm⟩ := h
  unfold sbL sbN sbB
  cases hR : sbR T xs n with
  | none => rw [hR] at hm; obtain ⟨v, rfl, ho⟩ := hm; exact ⟨v, [], rfl, ho, hb⟩
  | some a => rw [hR] at hm; obtain ⟨v, vs, rfl, ho⟩ := hm; exact ⟨v, vs, rfl, ho, hb⟩
theorem OwnK.spare {B m base : Nat} {w w' : World} {v : Value} {L : List (Int × List Int)} {vs : List Value} (h : OwnK w base v L vs) (hs : Spare B m w w') (hb : m ≤ base) : OwnK w' base v L vs := by
  obtain ⟨h1, h2, h3, h4, h5⟩ := h
  refine ⟨Nat.le_trans h1 hs.2.2.2.1, h2, ⟨h3.1, ?_⟩, fun j hj => hs.own (h4 j hj) hb, h5⟩
  rcases h3.2 with h0 | ⟨g, cap, cur, hv, hg, hh, r⟩
  · exact .inl h0
  · exact .inr ⟨g, cap, cur, hv, hg, (hs.2.2.2.2 g (Array.getElem?_eq_some_iff.1 hh).1 (.inr (by omega))).trans hh, r⟩

set_option maxRecDepth 100000 in
set_option maxHeartbeats 3200000 in
theorem law_blocks (a0 a1 a2 a3 : Option Addr) (c0 c1 c2 c3 : Nat) (T : Tb) (ao : Option Addr) (cap : Nat) (xs : List Int) (n : Int) (w : World) (h0 : T.cs.length ≤ 9223372036854775807) (h1 : T.ss.length ≤ 9223372036854775807) (h2 : T.ct.length ≤ 9223372036854775807) (h3 : T.st.length ≤ 9223372036854775807)
    (hn : xs.length ≤ 9223372036854775807) (ht : TV w (.agg #[.slice a0 T.cs.length c0, .slice a1 T.ss.length c1, .slice a2 T.ct.length c2, .slice a3 T.st.length c3]) T.cs T.ss T.ct T.st) (hv : View .i64 w ao xs.length xs) :
    Calls Try.prog 4 #[.agg #[.slice a0 T.cs.length c0, .slice a1 T.ss.length c1, .slice a2 T.ct.length c2, .slice a3 T.st.length c3], .slice ao xs.length cap, .int .i64 n] w fun e w' => e = .returned (.bool true) ∧ Below w.heap.size w w' := by
  have HB := hid ((Below.refl w.heap.size w).alloc (Nat.le_refl _) (.cells #[.slice a0 T.cs.length c0, .slice a1 T.ss.length c1, .slice a2 T.ct.length c2, .slice a3 T.st.length c3] 26))
  have HF := hid (Four.new w (.slice a0 T.cs.length c0) (.slice a1 T.ss.length c1) (.slice a2 T.ct.length c2) (.slice a3 T.st.length c3) 26)
  have HV := hid hv
  have HTV := hid ht
  have HZT := hid (fun q => szTables a0 a1 a2 a3 _ _ _ _ c0 c1 c2 c3 q h0 h1 h2 h3)
  clear hv ht
  by_cases hx : (xs.length : Int) ≤ 1048576
  · go_enter Try.func4, Try.ntmps4
    go_wp2_with fail
    refine (HZT.out _).mono ?_
    generalize w.alloc (.cells #[.slice a0 T.cs.length c0, .slice a1 T.ss.length c1, .slice a2 T.ct.length c2, .slice a3 T.st.length c3] 26) = wa at *
    rintro e w1 ⟨r, rfl, hr, hb1⟩
    have B2 := hid (HB.out.trans (hb1.mono HB.out.size))
    have F2 := hid (HF.out.below hb1 HF.out.lt)
    clear hb1 HF HB
    rcases hr with ⟨hr0, ⟨k0, k1, k2, k3⟩, hr1⟩ | rfl
    · have hd : ¬ r < 0 := by omega
      have HTO := hid (fun q (hq : Below w.heap.size w q) => toTables (.agg #[.slice a0 T.cs.length c0, .slice a1 T.ss.length c1, .slice a2 T.ct.length c2, .slice a3 T.st.length c3]) T.cs T.ss T.ct T.st q k0 k1 k2 k3 (HTV.out.below hq))
      have HTI := hid (fun q (hq : Below w.heap.size w q) => toIntsG ao xs.length cap xs q (by omega) (HV.out.below (Nat.le_refl _) hq))
      have HSP := hid (fun v g q ht hv => (spec_scanBlocks v T (some ⟨g, 0, none⟩) xs.length xs n q k0 k1 k2 k3 (by omega) (.inr ⟨_, _, rfl, Nat.le_refl _⟩) ht hv).mono (fun _ _ h => h.all))
      have HIM := hid (fun v g q ht hv => (impl_scanBlocks v T (some ⟨g, 0, none⟩) xs.length xs n q k0 k1 k2 k3 (by omega) (.inr ⟨_, _, rfl, Nat.le_refl _⟩) ht hv).mono (fun _ _ h => h.all))
      have HBD := hid (sbL_bd T xs n)
      have HEQ := hid (fun v v' q ht ht' => eqTables_same v v' T.cs T.ss T.ct T.st q k0 k1 k2 k3 ht ht')
      generalize sbL T xs n = R at *
      generalize sbN T xs n = N at *
      generalize sbB T xs n = F at *
      have hFF : (F != F) = false := by simp
      have hNN : ((N : Int) != (N : Int)) = false := by simp
      obtain ⟨q0, q1, q2, q3⟩ := F2.out.cells
      go_wp2_with fail
      refine (HTO.out _ B2.out).mono ?_
      rintro e w3 ⟨v3, rfl, ho3, hb3⟩
      have B3 := hid (B2.out.trans (hb3.mono B2.out.size))
      have F3 := hid (F2.out.below hb3 F2.out.lt)
      have HT3 := hid ho3.tv
      clear hb3 ho3 F2 q0 q1 q2 q3
      go_wp2_with fail
      refine (HTI.out _ B3.out).mono ?_
      rintro e w4 ⟨rfl, ho4, hb4⟩
      have B4 := hid (B3.out.trans (hb4.mono B3.out.size))
      have F4 := hid (F3.out.below hb4 F3.out.lt)
      have HT4 := hid (HT3.out.below hb4)
      obtain ⟨_, _, ee, hv4⟩ := ho4.view
      cases ee
      have HR4 := hid hv4
      clear hb4 ho4 hv4 HT3 F3
      go_wp2_with fail
      refine (HSP.out _ _ _ HT4.out HR4.out).mono ?_
      rintro e w5 ⟨y0, us, rfl, hy0, hb5⟩
      have B5 := hid (B4.out.trans (hb5.mono B4.out.size))
      obtain ⟨yo, yc, rfl⟩ := hy0.shape
      have HY5 := hid hy0.brow
      have F5 := hid (F4.out.below hb5 F4.out.lt)
      clear hy0 hb5 HT4 HR4 F4
      obtain ⟨q0, q1, q2, q3⟩ := F5.out.cells
      go_wp2_with fail
      refine (HTO.out _ B5.out).mono ?_
      rintro e w6 ⟨v6, rfl, ho6, hb6⟩
      have HT6 := hid ho6.tv
      have B6 := hid (B5.out.trans (hb6.mono B5.out.size))
      have F6 := hid (F5.out.below hb6 F5.out.lt)
      have Y6 := hid hb6
      obtain ⟨x0, d0, x1, d1, x2, d2, x3, d3, rfl, o0, o1, o2, o3⟩ := ho6
      have I0 := hid (o0.intB (m := w6.heap.size) (Nat.le_refl _) (fun a n c h => by have := o0; rw [h] at this; exact this.ge.2))
      have I1 := hid (o1.intB (m := w6.heap.size) (Nat.le_refl _) (fun a n c h => by have := o1; rw [h] at this; exact this.ge.2))
      have I2 := hid (o2.intB (m := w6.heap.size) (Nat.le_refl _) (fun a n c h => by have := o2; rw [h] at this; exact this.ge.2))
      have I3 := hid (o3.intB (m := w6.heap.size) (Nat.le_refl _) (fun a n c h => by have := o3; rw [h] at this; exact this.ge.2))
      clear o0 o1 o2 o3
      have HBA := hid ((Below.refl w6.heap.size w6).alloc (Nat.le_refl _) (.cells #[.slice x0 T.cs.length d0, .slice x1 T.ss.length d1, .slice x2 T.ct.length d2, .slice x3 T.st.length d3] 34))
      have G6 := hid (Four.new w6 (.slice x0 T.cs.length d0) (.slice x1 T.ss.length d1) (.slice x2 T.ct.length d2) (.slice x3 T.st.length d3) 34)
      have B7 := hid (B6.out.trans (HBA.out.mono B6.out.size))
      have F7 := hid (F6.out.below HBA.out F6.out.lt)
      have HT7 := hid (HT6.out.below HBA.out)
      have Y7 := hid (Y6.out.trans (HBA.out.mono Y6.out.size))
      have h67 : w6.heap.size ≤ (w6.alloc (.cells #[.slice x0 T.cs.length d0, .slice x1 T.ss.length d1, .slice x2 T.ct.length d2, .slice x3 T.st.length d3] 34)).heap.size := HBA.out.size
      clear hb6 F6 HT6 q0 q1 q2 q3
      go_wp2_with fail
      refine (HTI.out _ B7.out).mono ?_
      generalize w6.alloc (.cells #[.slice x0 T.cs.length d0, .slice x1 T.ss.length d1, .slice x2 T.ct.length d2, .slice x3 T.st.length d3] 34) = w7 at *
      rintro e w8 ⟨rfl, ho8, hb8⟩
      have B8 := hid (B7.out.trans (hb8.mono B7.out.size))
      have F8 := hid (F7.out.below hb8 F7.out.lt)
      have G8 := hid (G6.out.below hb8 G6.out.lt)
      have HT8 := hid (HT7.out.below hb8)
      obtain ⟨_, _, ee, hv8⟩ := ho8.view
      cases ee
      have HR8 := hid hv8
      have Y8 := hid (Y7.out.trans (hb8.mono Y7.out.size))
      have I4 := hid (ho8.intB (m := w8.heap.size) (Nat.le_refl _) (fun a n c h => by have := ho8; rw [h] at this; exact this.ge.2))
      have hg8 : w7.heap.size < w8.heap.size := ho8.ge.2
      have HQ8 := hid (Below.trans HBA.out (hb8.mono HBA.out.size))
      clear hb8 ho8 hv8 F7 G6 HT7 HBA
      obtain ⟨q0, q1, q2, q3⟩ := G8.out.cells
      go_wp2_with fail
      refine (HIM.out _ _ _ HT8.out HR8.out).mono ?_
      rintro e w9 ⟨g0, gs, rfl, hg0, hb9⟩
      obtain ⟨gp, gc, rfl⟩ := hg0.shape
      have B9 := hid (B8.out.trans (hb9.mono B8.out.size))
      have HG9 := hid hg0
      have Y9 := hid (Y8.out.trans (hb9.mono Y8.out.size))
      have HM9 := hid (I4.out.below hb9)
      have HQ9 := hid (HQ8.out.trans (hb9.mono HQ8.out.size))
      clear hg0
      have F9 := hid (F8.out.below hb9 F8.out.lt)
      have G9 := hid (G8.out.below hb9 G8.out.lt)
      have HT9 := hid (HT8.out.below hb9)
      have HR9 := hid (HR8.out.below (Nat.le_refl _) hb9)
      clear hb9 F8 G8 HT8 HR8 q0 q1 q2 q3 I4
      have HL1 := hid (show R.length ≤ 1048576 by have := HBD.out.1; omega)
      have HL2 := hid (fun j (hj : j < R.length) => (show (nth R j).2.length ≤ 1048576 by have := HBD.out.2 _ (nth_inK R j hj); omega))
      go_wp2_with fail
      refine (eqBlockS_same _ _ _ _ R w9 HL1.out HL2.out HG9.out.brow (HY5.out.below Y9.out)).mono ?_
      rintro e u9 ⟨rfl, hbu⟩
      have HGu := hid (HG9.out.below hbu)
      have Yu := hid (Y9.out.trans (hbu.mono Y9.out.size))
      have HMu := hid (HM9.out.below hbu)
      have HQu := hid (HQ9.out.trans (hbu.mono HQ9.out.size))
      have Bu := hid (B9.out.trans (hbu.mono B9.out.size))
      have Fu := hid (F9.out.below hbu F9.out.lt)
      have Gu := hid (G9.out.below hbu G9.out.lt)
      have HTu := hid (HT9.out.below hbu)
      have HRu := hid (HR9.out.below (Nat.le_refl _) hbu)
      have h8u : w8.heap.size ≤ u9.heap.size := HGu.out.1
      clear hbu HG9 Y9 HM9 HQ9 B9 F9 G9 HT9 HR9
      obtain ⟨q0, q1, q2, q3⟩ := Gu.out.cells
      obtain ⟨p0, p1, p2, p3⟩ := Fu.out.cells
      have HFC := hid (fun q (hq : Below u9.heap.size u9 q) => (Fu.out.below hq Fu.out.lt).cells)
      have HGC := hid (fun q (hq : Below u9.heap.size u9 q) => (Gu.out.below hq Gu.out.lt).cells)
      go_wp2_with fail
      go_cut [70] from 66 to 143 (fun s wx => s = .bool false ∧ Below u9.heap.size u9 wx)
      case first =>
        go_region_held3 (fun q => (q.cell? ⟨w.heap.size, 0, none⟩ = some (.slice a0 T.cs.length c0) ∧ q.cell? ⟨w.heap.size, 1, none⟩ = some (.slice a1 T.ss.length c1) ∧ q.cell? ⟨w.heap.size, 2, none⟩ = some (.slice a2 T.ct.length c2) ∧ q.cell? ⟨w.heap.size, 3, none⟩ = some (.slice a3 T.st.length c3)) ∧ q.cell? ⟨w6.heap.size, 0, none⟩ = some (.slice x0 T.cs.length d0) ∧ q.cell? ⟨w6.heap.size, 1, none⟩ = some (.slice x1 T.ss.length d1) ∧ q.cell? ⟨w6.heap.size, 2, none⟩ = some (.slice x2 T.ct.length d2) ∧ q.cell? ⟨w6.heap.size, 3, none⟩ = some (.slice x3 T.st.length d3)) (go_keep) (first
          | (go_at_call 12; refine (HTO.out _ ?_).mono ?_; · first | exact Bu.out | exact Bu.out.trans ((Below.refl _ _).drew.mono Bu.out.size)
             rintro e w10 ⟨v10, rfl, ho10, hb10⟩
             have hcA : Below u9.heap.size u9 w10 := by first | exact hb10 | exact Below.trans (Below.refl _ _).drew hb10
             have hv10 := ho10.tv
             obtain ⟨z0, e0, z1, e1, z2, e2, z3, e3, rfl, _⟩ := ho10
             obtain ⟨g0, g1, g2, g3⟩ := HFC.out _ hcA
             obtain ⟨t0, t1, t2, t3⟩ := HGC.out _ hcA)
          | (go_at_call 16; refine (HEQ.out _ _ _ ?_ ?_).mono ?_; · first | exact HTu.out.below hcA | exact (HTu.out.below hcA).below (Below.refl _ _).drew
             · first | exact hv10 | exact hv10.below (Below.refl _ _).drew
             rintro e w11 ⟨rfl, hb11⟩
             have hcB : Below u9.heap.size u9 w11 := by first | exact hcA.trans (hb11.mono hcA.size) | exact hcA.trans ((Below.trans (Below.refl _ _).drew hb11).mono hcA.size)
             obtain ⟨g0', g1', g2', g3'⟩ := HFC.out _ hcB
             obtain ⟨t0', t1', t2', t3'⟩ := HGC.out _ hcB))
        all_goals
          go_wp2_with fail
          go_meet
          exact ⟨rfl, hcB⟩
      case rest =>
        obtain ⟨rfl, hb10⟩ := hcut
        generalize hwc : wc = w10 at *
        clear hwc
        have B10 := hid (Bu.out.trans (hb10.mono Bu.out.size))
        have HR10 := hid (HRu.out.below (Nat.le_refl _) hb10)
        have HG10 := hid (HGu.out.below hb10)
        have Y10 := hid (Yu.out.trans (hb10.mono Yu.out.size))
        have HM10 := hid (HMu.out.below hb10)
        have HQ10 := hid (HQu.out.trans (hb10.mono HQu.out.size))
        have F10 := hid (Fu.out.below hb10 Fu.out.lt)
        have G10 := hid (Gu.out.below hb10 Gu.out.lt)
        clear hb10 HRu HGu Yu HMu HQu Fu Gu q0 q1 q2 q3 p0 p1 p2 p3 HFC HGC
        go_wp2_with fail
        refine (HTI.out _ B10.out).mono ?_
        rintro e w12 ⟨rfl, ho12, hb12⟩
        have HX12 := hid ho12
        have HR12 := hid (HR10.out.below (Nat.le_refl _) hb12)
        clear ho12
        go_wp2_with fail
        refine (eq_vw w12 _ _ xs (by omega) ⟨_, _, rfl, HR12.out⟩ HX12.out.view).mono ?_
        rintro e w13 ⟨rfl, hb13⟩
        have hb1013 : Below w10.heap.size w10 w13 := hb12.trans (hb13.mono hb12.size)
        have HG13 := hid (HG10.out.below hb1013)
        have Y13 := hid (Y10.out.trans (hb1013.mono Y10.out.size))
        have HM13 := hid (HM10.out.below hb1013)
        have HQ13 := hid (HQ10.out.trans (hb1013.mono HQ10.out.size))
        have F13 := hid (F10.out.below hb1013 F10.out.lt)
        have G13 := hid (G10.out.below hb1013 G10.out.lt)
        have h813 : w8.heap.size ≤ w13.heap.size := HG13.out.1
        have h56 : w5.heap.size ≤ w6.heap.size := Y6.out.size
        have J0 := hid ((I0.out.below HQ13.out).wider (Nat.le_refl _) (show w6.heap.size ≤ w8.heap.size by omega))
        have J1 := hid ((I1.out.below HQ13.out).wider (Nat.le_refl _) (show w6.heap.size ≤ w8.heap.size by omega))
        have J2 := hid ((I2.out.below HQ13.out).wider (Nat.le_refl _) (show w6.heap.size ≤ w8.heap.size by omega))
        have J3 := hid ((I3.out.below HQ13.out).wider (Nat.le_refl _) (show w6.heap.size ≤ w8.heap.size by omega))
        have HMW := hid (HM13.out.wider (show w5.heap.size ≤ w7.heap.size by omega) (Nat.le_refl _))
        clear hb1013 hb12 hb13 HG10 Y10 HM10 HQ10 F10 G10 HR10 HR12 HX12 HM13
        obtain ⟨q0, q1, q2, q3⟩ := G13.out.cells
        go_wp2_with fail
        refine (markTablesI w5.heap.size w8.heap.size x0 x1 x2 x3 _ _ _ _ d0 d1 d2 d3 w13 k0 k1 k2 k3 h813 J0.out J1.out J2.out J3.out).mono ?_
        rintro e w14 ⟨rfl, hso⟩
        have hsp := hso.1
        have HG14 := hid (HG13.out.spare hsp (Nat.le_refl _))
        have Y14 := hid (Y13.out.trans (hsp.below (by omega)))
        have HM14 := hid (HMW.out.soft hso)
        clear hso hsp HG13 HMW Y13 F13 J0 J1 J2 J3 q0 q1 q2 q3
        have hk1 : (1 : Int) + T.cs.length + T.ss.length + T.ct.length + T.st.length ≤ 1000000000 := by omega
        have hk0 : (1 : Int) ≤ 1 + T.cs.length + T.ss.length + T.ct.length + T.st.length := by omega
        generalize (1 : Int) + T.cs.length + T.ss.length + T.ct.length + T.st.length = KK at *
        go_wp2_with fail
        refine (mark_ints w5.heap.size w8.heap.size _ xs.length KK w14 (by omega) (by omega) (by omega) HM14.out).mono ?_
        rintro e w15 ⟨rfl, hso⟩
        have HG15 := hid (HG14.out.spare hso.1 (Nat.le_refl _))
        have Y15 := hid (Y14.out.trans (hso.1.below (by have := HG14.out.1; omega)))
        have hd9 : decide (KK + (xs.length : Int) < 0) = false := by simp; omega
        clear hso HG14 HM14 Y14
        go_wp2_with fail
        refine (eqBlockS_same _ _ _ _ R w15 HL1.out HL2.out HG15.out.brow (HY5.out.below Y15.out)).mono ?_
        rintro e w16 ⟨rfl, hb16⟩
        have HG16 := hid (HG15.out.below hb16)
        have Y16 := hid (Y15.out.trans (hb16.mono Y15.out.size))
        clear hb16 HG15 Y15
        go_wp2_with fail
        refine (markK w8.heap.size _ R gs w16 HBD.out.1 HBD.out.2 HG16.out).mono ?_
        rintro e w17 ⟨rfl, hg17, hb17⟩
        have HG17 := hid hg17
        have Y17 := hid (Y16.out.trans (hb17.mono (by omega)))
        clear hg17 hb17 HG16 Y16
        have hst := stK_le R (fun k hk => HBD.out.2 _ (nth_inK R k hk)) R.length (Nat.le_refl _)
        have hp : ¬ (stK R R.length < 0) := by omega
        have HHD := hid (fun q (hq : BRow q gp (mkK R R.length)) => heldK gp gc R q HBD.out.1 HBD.out.2 hq)
        clear hst
        go_wp2_with fail
        refine (HHD.out _ HG17.out.brow).mono ?_
        rintro e w18 ⟨rfl, rfl⟩
        have B17 := hid (B5.out.trans (Y17.out.mono B5.out.size))
        have F17 := hid (F5.out.below Y17.out F5.out.lt)
        obtain ⟨p0, p1, p2, p3⟩ := F17.out.cells
        generalize stK R R.length = SK at *
        have hSS : (SK != SK) = false := by simp
        go_wp2_with fail
        refine (HTO.out _ B17.out).mono ?_
        rintro e w19 ⟨v19, rfl, ho19, hb19⟩
        have HT19 := hid ho19.tv
        have HG19 := hid (HG17.out.below hb19)
        have Y19 := hid (Y17.out.trans (hb19.mono Y17.out.size))
        have B19 := hid (B17.out.trans (hb19.mono B17.out.size))
        clear ho19 hb19 HG17 p0 p1 p2 p3 F17
        go_wp2_with fail
        refine (HTI.out _ B19.out).mono ?_
        rintro e w20 ⟨rfl, ho20, hb20⟩
        have HT20 := hid (HT19.out.below hb20)
        obtain ⟨_, _, ee, hv20⟩ := ho20.view
        cases ee
        have HR20 := hid hv20
        have HG20 := hid (HG19.out.below hb20)
        have Y20 := hid (Y19.out.trans (hb20.mono Y19.out.size))
        clear ho20 hv20 hb20 HT19 HG19
        go_wp2_with fail
        refine (HIM.out _ _ _ HT20.out HR20.out).mono ?_
        rintro e w21 ⟨g4, gt, rfl, hg4, hb21⟩
        obtain ⟨go4, gc4, rfl⟩ := hg4.shape
        have HH21 := hid hg4
        have HG21 := hid (HG20.out.below hb21)
        have Y21 := hid (Y20.out.trans (hb21.mono Y20.out.size))
        clear hg4 hb21 HG20
        go_wp2_with fail
        refine (eqBlockS_same _ _ _ _ R w21 HL1.out HL2.out HH21.out.brow (HY5.out.below Y21.out)).mono ?_
        rintro e w22 ⟨rfl, hb22⟩
        have HG22 := hid (HG21.out.below hb22)
        have Y22 := hid (Y21.out.trans (hb22.mono Y21.out.size))
        clear hb22 HG21 HH21
        go_wp2_with fail
        refine (HHD.out _ HG22.out.brow).mono ?_
        rintro e w23 ⟨rfl, rfl⟩
        have B22 := hid (B5.out.trans (Y22.out.mono B5.out.size))
        go_wp2_with fail
        go_ret
        exact ⟨rfl, B22.out⟩
    · go_wp2_with fail
      go_ret
      exact ⟨rfl, B2.out⟩
  · go_enter Try.func4, Try.ntmps4
    go_wp2_with fail
    go_ret
    exact ⟨rfl, HB.out⟩
end Go.Proofs.Ytcikmgdfelejpaa
