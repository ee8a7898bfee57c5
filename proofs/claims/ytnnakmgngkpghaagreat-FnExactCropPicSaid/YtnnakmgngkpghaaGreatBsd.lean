/- row and beside of the program. -/
import Derived.Test.YtnnakmgngkpghaaGreatBsp
import Derived.Test.YtnnakmgngkpghaaGreatRi
namespace Go.Proofs.YtnnakmgngkpghaaGreat
open Go.RowKit Go.Maps
set_option linter.unusedVariables false

theorem Tri.set0 {w : World} {b : Nat} {x0 x1 x2 : Value} {t : TypeId} (h : Tri w b x0 x1 x2 t) (u : Value) : Tri (w.setCell ⟨b, 0, none⟩ u) b u x1 x2 t := heap_setCell_same w b 0 _ t u h
theorem Tri.set1 {w : World} {b : Nat} {x0 x1 x2 : Value} {t : TypeId} (h : Tri w b x0 x1 x2 t) (u : Value) : Tri (w.setCell ⟨b, 1, none⟩ u) b x0 u x2 t := heap_setCell_same w b 1 _ t u h
theorem Tri.other {w : World} {b c i : Nat} {x0 x1 x2 : Value} {t : TypeId} (h : Tri w b x0 x1 x2 t) (hne : b ≠ c) (v : Value) : Tri (w.setCell ⟨c, i, none⟩ v) b x0 x1 x2 t := (Below.heap_setCell _ _ _ _ (fun e => hne (by rw [e]))).trans h

set_option maxRecDepth 100000 in
set_option maxHeartbeats 1600000 in
theorem row_any (W : Nat) (hv : Value) (b off n cap r : Nat) (hh : hv.cells.size = 1) (w : World) (h1 : 1 ≤ W) (hW : W ≤ 1000) (hr : r ≤ 1000) (hn : (r + 1) * W ≤ n) (hc : n ≤ cap) :
    Calls Tryz.prog 55 #[.agg #[.int .i64 (W : Int), hv, .slice (some ⟨b, off, none⟩) n cap], .int .i64 (r : Int)] w fun e w' => e = .returned (.slice (some ⟨b, off + r * W * 2, none⟩) W (cap - r * W)) ∧ Below w.heap.size w w' := by
  have HA := hid ((Below.refl w.heap.size w).alloc (Nat.le_refl _) (.cells #[.int .i64 (W : Int), hv, .slice (some ⟨b, off, none⟩) n cap] 56))
  have HT := hid (Tri.new w (.int .i64 (W : Int)) hv (.slice (some ⟨b, off, none⟩) n cap) 56)
  have hb1 : r * W ≤ 1000 * 1000 := Nat.mul_le_mul hr hW
  have hb2 : (r + 1) * W = r * W + W := Nat.succ_mul _ _
  obtain ⟨P, hP⟩ : ∃ P, P = r * W := ⟨_, rfl⟩
  have e1 : (r : Int) * (W : Int) = (P : Int) := by rw [hP]; simp
  have e2 : ((r : Int) + 1) * (W : Int) = (P : Int) + (W : Int) := by rw [hP, Int.add_mul]; simp
  rw [hb2] at hn
  rw [← hP] at hn hb1 ⊢
  clear hb2 hP
  obtain ⟨q0, q1, q2⟩ := HT.out.cells
  go_enter Tryz.func55, Tryz.ntmps55
  go_wp2_with fail
  go_ret
  exact ⟨congrArg Ending.returned (by show Value.slice _ (P + W - P) _ = _; rw [Nat.add_sub_cancel_left]), HA.out⟩

/-- What the operations of the statement leave. -/
def VB (p v' sh rv : Value) (r base : Nat) (Y : List ((Int × List Int) × Value)) : Nat → Value → World → Prop
  | 0, u, _ => u = p
  | 1, u, _ => u = v'
  | 2, u, _ => u = sh
  | 3, u, _ => u = .int .i64 (r : Int)
  | 4, u, _ => u = rv
  | 5, u, w => OwnZ w base u Y
  | 6, u, _ => u = p
  | _, _, _ => True
theorem VB.below {p v' sh rv : Value} {r base : Nat} {Y : List ((Int × List Int) × Value)} {w w' : World} (hb : Below w.heap.size w w') : ∀ j u, VB p v' sh rv r base Y j u w → VB p v' sh rv r base Y j u w'
  | 0, _, h => h
  | 1, _, h => h
  | 2, _, h => h
  | 3, _, h => h
  | 4, _, h => h
  | 5, _, h => OwnZ.below h hb
  | 6, _, h => h
  | k + 7, _, _ => trivial
def DB (j : Nat) : Nat := j + 37
theorem VB.else {p v' sh rv : Value} {r base : Nat} {Y : List ((Int × List Int) × Value)} {w w' : World} : ∀ j u, j ≠ 5 → VB p v' sh rv r base Y j u w → VB p v' sh rv r base Y j u w'
  | 0, _, _, h => h
  | 1, _, _, h => h
  | 2, _, _, h => h
  | 3, _, _, h => h
  | 4, _, _, h => h
  | 5, _, h, _ => absurd rfl h
  | 6, _, _, h => h
  | k + 7, _, _, _ => trivial
/-- What lies below base stays, and all else but the row that grows. -/
def Ap (base : Nat) (v' : Value) (wa q : World) : Prop := Below base wa q ∧ ∀ g, g < wa.heap.size → v'.ownBlock ≠ some g → q.heap[g]? = wa.heap[g]?
theorem Ap.below {base : Nat} {v' : Value} {wa q q' : World} (h : Ap base v' wa q) (hbs : base ≤ wa.heap.size) (hb : Below q.heap.size q q') : Ap base v' wa q' :=
  ⟨h.1.trans (hb.mono (Nat.le_trans hbs h.1.size)), fun g hg hn => (hb.block g (Nat.lt_of_lt_of_le hg h.1.size)).trans (h.2 g hg hn)⟩
theorem Ap.tri {base b : Nat} {v' : Value} {wa q : World} {x y z : Value} {t : TypeId} (h : Ap base v' wa q) (ht : Tri wa b x y z t) (hn : v'.ownBlock ≠ some b) : Tri q b x y z t := (h.2 b ht.lt hn).trans ht
theorem Facts.step2 {n : Nat} {V : Nat → Value → World → Prop} {D : Nat → Nat} {listed : Array Bool} {u : Nat → Value} {w w' : World} (h : Facts n V D listed u w) (i : Nat) (v : Value)
    (hD : ∀ j, j < n → j ≠ i → D j ≠ D i) (hV : ∀ j x, j ≠ i → V j x w → V j x w') (hv : V i v w') : Facts n V D (listed.setIfInBounds i true) (upd u (D i) v) w' := by
  intro j hj hl
  by_cases e : j = i
  · subst e
    simpa [upd] using hv
  · rw [getD_set_ne false (fun h => e h.symm)] at hl
    have h1 : upd u (D i) v (D j) = u (D j) := by simp [upd, hD j hj e]
    rw [h1]
    exact hV j _ e (h j hj hl)

set_option maxRecDepth 100000 in
set_option maxHeartbeats 3200000 in
theorem beside_any (Ss : List Sh) (H g o c : Nat) (w : World) (hne : 1 ≤ Ss.length) (hnl : Ss.length ≤ 1000) (hH : H ≤ 1000) (hW : wTo Ss Ss.length ≤ 1000) (hp : PIn w g o Ss H) (hs : ∀ i, i < Ss.length → ShIn w (nthSh Ss i) ∧ (nthSh Ss i).Z.length = (nthSh Ss i).w * H ∧ 1 ≤ (nthSh Ss i).w ∧ (nthSh Ss i).Z.length ≤ (nthSh Ss i).cap)
    (h1c : ∀ i, i < Ss.length → ∀ z ∈ (nthSh Ss i).Z, z.2.oneCell' = true) :
    Calls Tryz.prog 35 #[.slice (some ⟨g, o, none⟩) Ss.length c] w fun e w' => ∃ v, e = .returned (.agg #[.int .i64 (wTo Ss Ss.length : Int), .int .i64 (H : Int), v]) ∧ OwnZ w' w.heap.size v (allTo Ss H) ∧ Below w.heap.size w w' := by
  have HP := hid hp
  have HSS := hid hs
  have H1C := hid h1c
  have HWM := hid (fun k (hk : k ≤ Ss.length) => Nat.le_trans (wTo_mono Ss Ss.length k hk) hW)
  have hA1 := (Below.refl w.heap.size w).alloc (Nat.le_refl _) (.cells #[.int .i64 0, .int .i64 0, .slice none 0 0] 56)
  have hA := hA1.alloc (by simp) (.cells #[.int .i64 0, .int .i64 0, .slice none 0 0] 56)
  have hs1 : (w.alloc (.cells #[.int .i64 0, .int .i64 0, .slice none 0 0] 56)).heap.size = w.heap.size + 1 := by simp
  have t0 := (Tri.new w (.int .i64 0) (.int .i64 0) (.slice none 0 0) 56)
  have t0' := t0.below ((Below.refl _ _).alloc (Nat.le_refl _) (.cells #[.int .i64 0, .int .i64 0, .slice none 0 0] 56)) t0.lt
  have t1 := Tri.new (w.alloc (.cells #[.int .i64 0, .int .i64 0, .slice none 0 0] 56)) (.int .i64 0) (.int .i64 0) (.slice none 0 0) 56
  rw [hs1] at t1
  have T0 := hid t0'
  have T1 := hid t1
  have B0 := hid hA
  have hsz : ((w.alloc (.cells #[.int .i64 0, .int .i64 0, .slice none 0 0] 56)).alloc (.cells #[.int .i64 0, .int .i64 0, .slice none 0 0] 56)).heap.size = w.heap.size + 2 := by simp
  clear hp hs h1c hA hA1 hs1 t0 t0' t1
  go_enter Tryz.func35, Tryz.ntmps35
  go_wp2_with fail
  generalize (w.alloc _).alloc _ = wl at *
  go_loopw [12] (fun t wr => ∃ k : Nat, k ≤ Ss.length ∧ t = .int .i64 k ∧ Hid (Tri wr (w.heap.size + 1) (.int .i64 (wTo Ss k : Int)) (.int .i64 (if k = 0 then 0 else (H : Int))) (.slice none 0 0) 56) ∧ Hid (Below (w.heap.size + 1) wl wr)) (fun t _ => Ss.length - (intOf t).toNat)
  case atStart => exact ⟨0, by omega, rfl, T1, hid (Below.refl _ _)⟩
  case round =>
    obtain ⟨k, hk, rfl, htri, hb⟩ := hrel
    have HLW := hid htri.out.lt
    have hbw : Below w.heap.size w wr := B0.out.trans (hb.out.mono (Nat.le_succ _))
    by_cases hlt : k < Ss.length
    · have hlt' : (k : Int) < (Ss.length : Int) := by omega
      obtain ⟨p0, p1, p2⟩ := (HP.out.below hbw) k hlt
      have HN := hid (show wTo Ss (k + 1) = wTo Ss k + (nthSh Ss k).w from rfl)
      have hwm := HWM.out (k + 1) (by omega)
      rw [HN.out] at hwm
      have hA := (Below.refl wr.heap.size wr).alloc (Nat.le_refl _) (.cells #[.int .i64 ((nthSh Ss k).w : Int), .int .i64 (H : Int), .slice (some ⟨(nthSh Ss k).b, (nthSh Ss k).off, none⟩) (nthSh Ss k).Z.length (nthSh Ss k).cap] 56)
      have TN := hid (Tri.new wr (.int .i64 ((nthSh Ss k).w : Int)) (.int .i64 (H : Int)) (.slice (some ⟨(nthSh Ss k).b, (nthSh Ss k).off, none⟩) (nthSh Ss k).Z.length (nthSh Ss k).cap) 56)
      have TR := htri.out.below hA HLW.out
      have HB2 := hid (hb.out.trans (hA.mono (Nat.le_of_lt HLW.out)))
      generalize (nthSh Ss k).w = W0 at *
      generalize wTo Ss k = WT at *
      generalize (if k = 0 then 0 else (H : Int)) = H0 at *
      have T2 := hid ((TR.set0 (.int .i64 ((WT : Int) + (W0 : Int)))).set1 (.int .i64 (H : Int)))
      have HB3 := hid ((HB2.out.setCell (p := ⟨w.heap.size + 1, 0, none⟩) (Nat.le_refl _) (.int .i64 ((WT : Int) + (W0 : Int)))).setCell (p := ⟨w.heap.size + 1, 1, none⟩) (Nat.le_refl _) (.int .i64 (H : Int)))
      obtain ⟨n0, n1, n2⟩ := TN.out.cells
      obtain ⟨r0, r1, r2⟩ := TR.cells
      have rz := TR.free
      have TN2 := hid ((TN.out.other (show wr.heap.size ≠ w.heap.size + 1 by have := HLW.out; omega) (i := 0) (.int .i64 ((WT : Int) + (W0 : Int)))).cells)
      obtain ⟨m0, m1, m2⟩ := TN2.out
      clear TR hA hb htri
      go_wp2_with fail
      go_roundw
      case rel => exact ⟨k + 1, by omega, by go_num, hid (by rw [HN.out, if_neg (by omega)]; simpa using T2.out), HB3⟩
      case measure =>
        simp only [intOf]
        omega
    · obtain rfl : k = Ss.length := by omega
      have htri' := htri.out
      rw [if_neg (show ¬ Ss.length = 0 by omega)] at htri'
      have TA := hid htri'
      have BA := hid hb.out
      have OA : Hid (OwnZ wr (w.heap.size + 2) (.slice none 0 0) (allTo Ss 0)) := hid ⟨by have := hb.out.size; omega, rfl, .inl ⟨rfl, rfl⟩⟩
      obtain ⟨r0, r1, r2⟩ := htri'.cells
      have HWB := hid (HWM.out Ss.length (Nat.le_refl _))
      have HAL := hid (fun r (hr : r ≤ H) => allTo_len Ss H (fun i hi => (HSS.out i hi).2.1) r hr)
      have HBL := hid (fun r (hr : r < H) k (hk : k ≤ Ss.length) => bandTo_len Ss H r (fun i hi => (HSS.out i hi).2.1) hr k hk)
      clear htri hb htri' hbw HLW
      go_wp2_with fail
      generalize hWT : wTo Ss Ss.length = WT at *
      have HWT := hid hWT
      clear hWT
      go_loopw [28] (fun t wq => ∃ (r : Nat) (v : Value), r ≤ H ∧ t = .int .i64 r ∧ Hid (Tri wq (w.heap.size + 1) (.int .i64 (WT : Int)) (.int .i64 (H : Int)) v 56) ∧ Hid (OwnZ wq (w.heap.size + 2) v (allTo Ss r)) ∧ Hid (Below (w.heap.size + 1) wl wq)) (fun t _ => H - (intOf t).toNat)
      case atStart => exact ⟨0, _, by omega, rfl, TA, OA, BA⟩
      case round =>
        obtain ⟨r, v, hr, rfl, htri, hown, hb⟩ := hrel
        by_cases hrl : r < H
        · have hrl' : (r : Int) < (H : Int) := by omega
          generalize wr = WR at *
          go_wp2_with fail
          go_loopw [33] (fun t wq => ∃ (k : Nat) (v : Value), k ≤ Ss.length ∧ t = .int .i64 k ∧ Hid (Tri wq (w.heap.size + 1) (.int .i64 (WT : Int)) (.int .i64 (H : Int)) v 56) ∧ Hid (OwnZ wq (w.heap.size + 2) v (allTo Ss r ++ bandTo Ss r k)) ∧ Hid (Below (w.heap.size + 1) wl wq)) (fun t _ => Ss.length - (intOf t).toNat)
          case atStart => exact ⟨0, v, by omega, rfl, htri, hid (by rw [show bandTo Ss r 0 = [] from rfl, List.append_nil]; exact hown.out), hb⟩
          case round =>
            clear htri hown hb
            obtain ⟨k, v', hk, rfl, htri, hown, hb⟩ := hrel
            have hbw : Below w.heap.size w wr := B0.out.trans (hb.out.mono (Nat.le_succ _))
            by_cases hlt : k < Ss.length
            · have hlt' : (k : Int) < (Ss.length : Int) := by omega
              obtain ⟨p0, p1, p2⟩ := (HP.out.below hbw) k hlt
              have HSN := hid ((HSS.out k hlt).1)
              obtain ⟨_, hs2, hs3, hs4⟩ := HSS.out k hlt
              rw [hs2] at p2 hs4
              have HBN := hid (show bandTo Ss r (k + 1) = bandTo Ss r k ++ rowZ (nthSh Ss k) r from rfl)
              have HRL := hid (rowZ_len (nthSh Ss k) H r hs2 hrl)
              have H1R := hid (flZ_one (rowZ (nthSh Ss k) r) (fun z hz => H1C.out k hlt z (List.mem_of_mem_drop (List.mem_of_mem_take hz))))
              have HRC0 := hid (fun q (hq : Below w.heap.size w q) => rowZ_cells (HSN.out.below hq) r)
              have hw1 := HWM.out (k + 1) hlt
              have hw2 : (nthSh Ss k).w ≤ 1000 := by rw [wTo] at hw1; omega
              have HZL := hid (show (allTo Ss r ++ bandTo Ss r k).length ≤ 2000000 by
                rw [List.length_append, HAL.out r (by omega), HBL.out r hrl k hk]
                have h1 : r * WT ≤ 1000 * 1000 := Nat.mul_le_mul (by omega) HWB.out
                have h2 := HWM.out k hk
                omega)
              have hHW : (r + 1) * (nthSh Ss k).w ≤ (nthSh Ss k).w * H := by rw [Nat.mul_comm]; exact Nat.mul_le_mul_left _ hrl
              have HROW := hid (fun q => row_any (nthSh Ss k).w (.int .i64 (H : Int)) (nthSh Ss k).b (nthSh Ss k).off ((nthSh Ss k).w * H) (nthSh Ss k).cap r rfl q hs3 hw2 (by omega) hHW hs4)
              have HAN := hid (show allTo Ss r ++ bandTo Ss r (k + 1) = (allTo Ss r ++ bandTo Ss r k) ++ rowZ (nthSh Ss k) r by rw [HBN.out, List.append_assoc])
              clear hs2 hw1 hHW HBN HSN
              generalize rowZ (nthSh Ss k) r = RW at *
              generalize allTo Ss r ++ bandTo Ss r k = ZZ at *
              generalize (nthSh Ss k).w = W0 at *
              generalize (nthSh Ss k).b = b0 at *
              generalize (nthSh Ss k).off = f0 at *
              generalize (nthSh Ss k).cap = c0 at *
              go_wp2_with fail
              have hAl := (Below.refl wr.heap.size wr).alloc (Nat.le_refl _) (.cells #[.int .i64 (W0 : Int), .int .i64 (H : Int), .slice (some ⟨b0, f0, none⟩) (W0 * H) c0] 56)
              have TR := hid (htri.out.below hAl htri.out.lt)
              have T8 := hid (Tri.new wr (.int .i64 (W0 : Int)) (.int .i64 (H : Int)) (.slice (some ⟨b0, f0, none⟩) (W0 * H) c0) 56)
              have OV := hid (hown.out.below hAl)
              have HNE := hid (show v'.ownBlock ≠ some wr.heap.size from fun e => by have := (hown.out.2.lt _ e).2; omega)
              have HNE2 := hid (show v'.ownBlock ≠ some (w.heap.size + 1) from fun e => by have := (hown.out.2.lt _ e).1; omega)
              have HBA := hid (hb.out.trans (hAl.mono (show w.heap.size + 1 ≤ wr.heap.size from Nat.le_of_lt htri.out.lt)))
              have hbwa := hbw.trans (hAl.mono hbw.size)
              have hbase : w.heap.size + 2 ≤ wr.heap.size := hown.out.1
              clear htri hown hb hbw hAl p0 p1 p2
              obtain ⟨wa, hwa⟩ : ∃ wa, wa = wr.alloc (.cells #[.int .i64 (W0 : Int), .int .i64 (H : Int), .slice (some ⟨b0, f0, none⟩) (W0 * H) c0] 56) := ⟨_, rfl⟩
              have hbase2 : w.heap.size + 2 ≤ wa.heap.size := by rw [hwa]; simp; omega
              rw [← hwa] at TR T8 OV HBA hbwa ⊢
              clear hwa
              have HTR := hid (fun q (hq : Ap (w.heap.size + 2) v' wa q) => hq.tri TR.out HNE2.out)
              have HT8 := hid (fun q (hq : Ap (w.heap.size + 2) v' wa q) => hq.tri T8.out HNE.out)
              have HRC := hid (fun q (hq : Below (w.heap.size + 2) wa q) => HRC0.out q (hbwa.trans (hq.mono (by omega))))
              have HBS := hid hbase2
              clear HRC0 hbwa hbase hbase2
              refine wp_region_any (by kernel_rfl) ?_
              refine wpAny_inv (fun listed ac wq => ∃ u : Nat → Value, ac = { tmps := #[.slice (some ⟨g, o, none⟩) Ss.length c, undef, .pointer (some ⟨w.heap.size, 0, none⟩), .pointer (some ⟨w.heap.size + 1, 0, none⟩), undef, u5, .int .i64 (r : Int), undef, .pointer (some ⟨wr.heap.size, 0, none⟩), .agg #[.int .i64 0, .int .i64 0, .slice none 0 0], .slice (some ⟨g, o, none⟩) Ss.length c, .int .i64 (Ss.length : Int), .int .i64 (Ss.length : Int), .bool false, u14, u15, u16, u17, u18, u19, u20, u21, u22, u23, u24, u25, .pointer (some ⟨w.heap.size + 1, 1, none⟩), .int .i64 (H : Int), .int .i64 (r : Int), .bool true, .int .i64 (r : Int), .slice (some ⟨g, o, none⟩) Ss.length c, .int .i64 (Ss.length : Int), .int .i64 (k : Int), .bool true, .pointer (some ⟨g, o + k * 3, none⟩), .agg #[.int .i64 (W0 : Int), .int .i64 (H : Int), .slice (some ⟨b0, f0, none⟩) (W0 * H) c0], u 37, u 38, u 39, u 40, u 41, u 42, u 43, u44, u45, undef], defers := [] } ∧ (Inv2 7 (VB (.pointer (some ⟨w.heap.size + 1, 2, none⟩)) v' (.agg #[.int .i64 (W0 : Int), .int .i64 (H : Int), .slice (some ⟨b0, f0, none⟩) (W0 * H) c0]) (.slice (some ⟨b0, f0 + r * W0 * 2, none⟩) W0 (c0 - r * W0)) r (w.heap.size + 2) (ZZ ++ RW)) DB (fun q => Ap (w.heap.size + 2) v' wa q) (fun _ => True) (fun listed u q => Tri q (w.heap.size + 1) (.int .i64 (WT : Int)) (.int .i64 (H : Int)) (u 42) 56 ∧ OwnZ q (w.heap.size + 2) (u 42) (ZZ ++ RW) ∧ Below (w.heap.size + 1) wa q) listed u wq ∧ (listed.getD 5 false = false → OwnZ wq (w.heap.size + 2) v' ZZ))) ?hpre ?hstep ?hend _ _ _ _ rfl (by decide) (fun j oj _ hl => absurd hl (by simp [Array.getD])) ⟨upd (upd (upd (upd (upd (upd (upd (fun _ => undef) 37 u37) 38 u38) 39 u39) 40 u40) 41 u41) 42 u42) 43 u43, by simp [upd], ⟨fun _ => ⟨⟨(Below.refl _ _).drew, fun g _ _ => rfl⟩, trivial, fun j _ hl => absurd hl (by simp [Array.getD])⟩, fun h => absurd h (by simp [Array.getD])⟩, fun _ => OV.out.below (Below.refl _ _).drew⟩
              case hpre => exact pre_of (by kernel_rfl)
              case hend =>
                rintro listed ac wq hall ⟨u, rfl, hI⟩
                obtain ⟨ft, fo, fb⟩ := hI.1.2 (hall 7 (by decide))
                have FT := hid ft
                have FO := hid fo
                have FB := hid (HBA.out.trans fb)
                clear hI ft fo fb
                go_wp2_with fail
                go_roundw
                case rel => exact ⟨k + 1, u 42, by omega, by go_num, FT, hid (by rw [HAN.out]; exact FO.out), FB⟩
                case measure =>
                  simp only [intOf]
                  omega
              case hstep =>
                rintro listed ac wq i oo hszl ⟨u, rfl, hI⟩ ho hall hun hcl
                have hin : i < 8 := (Array.getElem?_eq_some_iff.1 ho).1
                have HNS : Hid (i < 7 → listed.getD 7 false = false) := hid (fun hi => by
                  cases hl : listed.getD 7 false with
                  | false => rfl
                  | true =>
                    exfalso
                    have l6 := hcl 7 _ rfl hl ⟨6, .data⟩ (by simp) rfl
                    have l5 := hcl 7 _ rfl hl ⟨5, .data⟩ (by simp) rfl
                    have l1 := hcl 5 _ rfl l5 ⟨1, .data⟩ (by simp) rfl
                    have l4 := hcl 5 _ rfl l5 ⟨4, .data⟩ (by simp) rfl
                    have l0 := hcl 1 _ rfl l1 ⟨0, .data⟩ (by simp) rfl
                    have l2 := hcl 4 _ rfl l4 ⟨2, .data⟩ (by simp) rfl
                    have l3 := hcl 4 _ rfl l4 ⟨3, .data⟩ (by simp) rfl
                    obtain rfl | rfl | rfl | rfl | rfl | rfl | rfl : i = 0 ∨ i = 1 ∨ i = 2 ∨ i = 3 ∨ i = 4 ∨ i = 5 ∨ i = 6 := by omega
                    · exact getD_ft l0 hun
                    · exact getD_ft l1 hun
                    · exact getD_ft l2 hun
                    · exact getD_ft l3 hun
                    · exact getD_ft l4 hun
                    · exact getD_ft l5 hun
                    · exact getD_ft l6 hun)
                have ST : Hid (listed.getD 7 false = false → Facts 7 (VB (.pointer (some ⟨w.heap.size + 1, 2, none⟩)) v' (.agg #[.int .i64 (W0 : Int), .int .i64 (H : Int), .slice (some ⟨b0, f0, none⟩) (W0 * H) c0]) (.slice (some ⟨b0, f0 + r * W0 * 2, none⟩) W0 (c0 - r * W0)) r (w.heap.size + 2) (ZZ ++ RW)) DB listed u wq → i < 7 → i ≠ 5 → ∀ (wz : World) (v : Value), Below wq.heap.size wq wz → (VB (.pointer (some ⟨w.heap.size + 1, 2, none⟩)) v' (.agg #[.int .i64 (W0 : Int), .int .i64 (H : Int), .slice (some ⟨b0, f0, none⟩) (W0 * H) c0]) (.slice (some ⟨b0, f0 + r * W0 * 2, none⟩) W0 (c0 - r * W0)) r (w.heap.size + 2) (ZZ ++ RW)) i v wz → (Inv2 7 (VB (.pointer (some ⟨w.heap.size + 1, 2, none⟩)) v' (.agg #[.int .i64 (W0 : Int), .int .i64 (H : Int), .slice (some ⟨b0, f0, none⟩) (W0 * H) c0]) (.slice (some ⟨b0, f0 + r * W0 * 2, none⟩) W0 (c0 - r * W0)) r (w.heap.size + 2) (ZZ ++ RW)) DB (fun q => Ap (w.heap.size + 2) v' wa q) (fun _ => True) (fun listed u q => Tri q (w.heap.size + 1) (.int .i64 (WT : Int)) (.int .i64 (H : Int)) (u 42) 56 ∧ OwnZ q (w.heap.size + 2) (u 42) (ZZ ++ RW) ∧ Below (w.heap.size + 1) wa q) (listed.setIfInBounds i true) (upd u (DB i) v) wz ∧ ((listed.setIfInBounds i true).getD 5 false = false → OwnZ wz (w.heap.size + 2) v' ZZ))) := hid (fun h1 h2 hi h5 wz v hbz hv => ⟨Inv2.step i v h1 h2 hi ((hI.1.1 h1).1.below HBS.out hbz) trivial (fun j hj hne => by unfold DB; omega) (fun j x hj h => VB.below hbz j x h) hv, fun h => by
                  rw [getD_set_ne false h5] at h
                  exact (hI.2 h).below hbz⟩)
                obtain rfl | rfl | rfl | rfl | rfl | rfl | rfl | rfl : i = 0 ∨ i = 1 ∨ i = 2 ∨ i = 3 ∨ i = 4 ∨ i = 5 ∨ i = 6 ∨ i = 7 := by omega
                · cases ho
                  have hns := HNS.out (by decide)
                  obtain ⟨hA, hX, hF⟩ := hI.1.1 hns
                  refine wpOp_step rfl (fun K hK => ?_)
                  go_simp
                  refine hK _ _ ⟨upd u 37 (.pointer (some ⟨w.heap.size + 1, 2, none⟩)), ?_, ST.out hns hF (by decide) (by decide) _ _ (Below.refl _ _) (rfl)⟩
                  simp [upd]
                · cases ho
                  have hns := HNS.out (by decide)
                  obtain ⟨hA, hX, hF⟩ := hI.1.1 hns
                  have f0 : u 37 = .pointer (some ⟨w.heap.size + 1, 2, none⟩) := hF 0 (by decide) (hall ⟨0, .data⟩ (by simp) rfl)
                  obtain ⟨g0, g1, g2⟩ := (HTR.out _ hA).cells
                  refine wpOp_step rfl (fun K hK => ?_)
                  simp only [f0]
                  go_simp
                  refine hK _ _ ⟨upd u 38 (v'), ?_, ST.out hns hF (by decide) (by decide) _ _ (Below.refl _ _) (rfl)⟩
                  simp [upd, f0]
                · cases ho
                  have hns := HNS.out (by decide)
                  obtain ⟨hA, hX, hF⟩ := hI.1.1 hns
                  obtain ⟨g0, g1, g2⟩ := (HT8.out _ hA).cells
                  refine wpOp_step rfl (fun K hK => ?_)
                  go_simp
                  refine hK _ _ ⟨upd u 39 (.agg #[.int .i64 (W0 : Int), .int .i64 (H : Int), .slice (some ⟨b0, f0, none⟩) (W0 * H) c0]), ?_, ST.out hns hF (by decide) (by decide) _ _ (Below.refl _ _) (rfl)⟩
                  simp [upd]
                · cases ho
                  have hns := HNS.out (by decide)
                  obtain ⟨hA, hX, hF⟩ := hI.1.1 hns
                  refine wpOp_step rfl (fun K hK => ?_)
                  go_simp
                  refine hK _ _ ⟨upd u 40 (.int .i64 (r : Int)), ?_, ST.out hns hF (by decide) (by decide) _ _ (Below.refl _ _) (rfl)⟩
                  simp [upd]
                · cases ho
                  have hns := HNS.out (by decide)
                  obtain ⟨hA, hX, hF⟩ := hI.1.1 hns
                  have f2 : u 39 = .agg #[.int .i64 (W0 : Int), .int .i64 (H : Int), .slice (some ⟨b0, f0, none⟩) (W0 * H) c0] := hF 2 (by decide) (hall ⟨2, .data⟩ (by simp) rfl)
                  have f3 : u 40 = .int .i64 (r : Int) := hF 3 (by decide) (hall ⟨3, .data⟩ (by simp) rfl)
                  refine wpOp_step rfl (fun K hK => ?_)
                  simp only [f2, f3]
                  go_simp
                  refine (HROW.out wq).mono ?_
                  rintro e w3 ⟨rfl, hb3⟩
                  refine hK _ _ ⟨upd u 41 (.slice (some ⟨b0, f0 + r * W0 * 2, none⟩) W0 (c0 - r * W0)), ?_, ST.out hns hF (by decide) (by decide) w3 _ hb3 (rfl)⟩
                  simp [upd, f2, f3]
                · cases ho
                  have hns := HNS.out (by decide)
                  obtain ⟨hA, hX, hF⟩ := hI.1.1 hns
                  have h5 : listed.getD 5 false = false := by
                    cases h : listed.getD 5 false with
                    | false => rfl
                    | true => exact absurd hun (fun h' => getD_ft h h')
                  have f1 : u 38 = v' := hF 1 (by decide) (hall ⟨1, .data⟩ (by simp) rfl)
                  have f4 : u 41 = .slice (some ⟨b0, f0 + r * W0 * 2, none⟩) W0 (c0 - r * W0) := hF 4 (by decide) (hall ⟨4, .data⟩ (by simp) rfl)
                  have ow := hI.2 h5
                  obtain ⟨ti, hi, hz0, hz1, hz2⟩ := info_parts Tryz.info65
                  refine wpOp_step rfl (fun K hK => ?_)
                  rw [if_pos (by simp [Region.wanted])]
                  refine wp_append_own wq (.tmp 38) (.tmp 41) 34 rfl (w.heap.size + 2) 65 ti (.agg #[.int .i64 0, .slice none 0 0]) 2 32 Tryz.underlying34 hi hz0 hz1 hz2 rfl (by decide) v' ZZ.length _ f1 ow.2 ⟨b0, f0 + r * W0 * 2, none⟩ W0 (c0 - r * W0) (flZ RW) f4 (by rw [flZ_len, HRL.out]) ?_ H1R.out (by unfold maxLen; have := HZL.out; omega) (by have := HZL.out; omega) ow.1 ?_
                  · intro j q hj
                    rw [Addr.add_lit]
                    exact HRC.out _ hA.1 j q hj
                  · intro v2 w2 hown2 hgrow _
                    have ow2 : OwnZ w2 (w.heap.size + 2) v2 (ZZ ++ RW) := ⟨Nat.le_trans ow.1 hgrow.size, by rw [List.length_append, flZ_app, HRL.out]; exact hown2⟩
                    have hA2 : Ap (w.heap.size + 2) v' wa w2 := ⟨hA.1.trans ((Below.refl _ wq).grown hgrow ow.1 (fun g hg => (ow.2.lt g hg).1)), fun g hg hn => (hgrow.block g (Nat.lt_of_lt_of_le hg hA.1.size) (fun e => hn e.symm)).trans (hA.2 g hg hn)⟩
                    refine hK _ _ ⟨upd u 42 v2, ?_, ⟨⟨fun _ => ⟨hA2, trivial, hF.step2 5 v2 (fun j _ hne => by unfold DB; omega) (fun j x hne h => VB.else j x hne h) ow2⟩, fun h => ?_⟩, fun h => ?_⟩⟩
                    · simp [upd, Act.put]
                    · rw [getD_set_ne false (by decide), hns] at h
                      cases h
                    · exfalso
                      rw [show (listed.setIfInBounds 5 true).getD 5 false = true by simp [Array.getD, hszl]] at h
                      cases h
                · cases ho
                  have hns := HNS.out (by decide)
                  obtain ⟨hA, hX, hF⟩ := hI.1.1 hns
                  refine wpOp_step rfl (fun K hK => ?_)
                  go_simp
                  refine hK _ _ ⟨upd u 43 (.pointer (some ⟨w.heap.size + 1, 2, none⟩)), ?_, ST.out hns hF (by decide) (by decide) _ _ (Below.refl _ _) (rfl)⟩
                  simp [upd]
                · cases ho
                  have hns : listed.getD 7 false = false := by
                    cases h : listed.getD 7 false with
                    | false => rfl
                    | true => exact absurd hun (fun h' => getD_ft h h')
                  obtain ⟨hA, hX, hF⟩ := hI.1.1 hns
                  have f6 : u 43 = .pointer (some ⟨w.heap.size + 1, 2, none⟩) := hF 6 (by decide) (hall ⟨6, .data⟩ (by simp) rfl)
                  have ow : OwnZ wq (w.heap.size + 2) (u 42) (ZZ ++ RW) := hF 5 (by decide) (hall ⟨5, .data⟩ (by simp) rfl)
                  have h5 : listed.getD 5 false = true := hall ⟨5, .data⟩ (by simp) rfl
                  have TQ := HTR.out _ hA
                  obtain ⟨yo, yc, hy⟩ := ow.shape
                  rw [List.length_append] at hy
                  have FT := hid (TQ.set2 (u 42))
                  have FO := hid (ow.setCell_below (a := ⟨w.heap.size + 1, 2, none⟩) (show w.heap.size + 1 < w.heap.size + 2 by omega) (u 42))
                  have FB := hid ((hA.1.mono (show w.heap.size + 1 ≤ w.heap.size + 2 by omega)).setCell (p := ⟨w.heap.size + 1, 2, none⟩) (Nat.le_refl _) (u 42))
                  obtain ⟨g0, g1, g2⟩ := TQ.cells
                  have gz := TQ.free
                  clear TQ ow
                  refine wpOp_step rfl (fun K hK => ?_)
                  rw [hy] at FT FO FB
                  simp only [f6, hy]
                  go_simp
                  refine hK _ _ ⟨u, ?_, ⟨⟨fun h => ?_, fun _ => by simp only [hy]; exact ⟨FT.out, FO.out, FB.out⟩⟩, fun h => ?_⟩⟩
                  · simp [f6, hy]
                  · exfalso
                    rw [show (listed.setIfInBounds 7 true).getD 7 false = true by simp [Array.getD, hszl]] at h
                    cases h
                  · rw [getD_set_ne false (by decide), h5] at h
                    cases h
            · obtain rfl : k = Ss.length := by omega
              go_wp2_with fail
              go_roundw
              case rel => exact ⟨r + 1, v', by omega, by go_num, htri, hid (by rw [show allTo Ss (r + 1) = allTo Ss r ++ bandTo Ss r Ss.length from rfl]; exact hown.out), hb⟩
              case measure =>
                simp only [intOf]
                omega
        · obtain rfl : r = H := by omega
          obtain ⟨vo, vc, rfl⟩ := hown.out.shape
          have T3 := T0.out.below hb.out (Nat.lt_succ_self _)
          obtain ⟨g0, g1, g2⟩ := htri.out.cells
          obtain ⟨z0, z1, z2⟩ := T3.cells
          have zz := T3.free
          have TZ := hid (((T3.set0 (.int .i64 (WT : Int))).set1 (.int .i64 (r : Int))).set2 (.slice vo (allTo Ss r).length vc)).cells
          have hbw := B0.out.trans (hb.out.mono (Nat.le_succ _))
          have BZ := hid (((hbw.setCell (p := ⟨w.heap.size, 0, none⟩) (Nat.le_refl _) (.int .i64 (WT : Int))).setCell (p := ⟨w.heap.size, 1, none⟩) (Nat.le_refl _) (.int .i64 (r : Int))).setCell (p := ⟨w.heap.size, 2, none⟩) (Nat.le_refl _) (.slice vo (allTo Ss r).length vc))
          have OZ := hid ((((hown.out.setCell_below (a := ⟨w.heap.size, 0, none⟩) (show w.heap.size < w.heap.size + 2 by omega) (.int .i64 (WT : Int))).setCell_below (a := ⟨w.heap.size, 1, none⟩) (show w.heap.size < w.heap.size + 2 by omega) (.int .i64 (r : Int))).setCell_below (a := ⟨w.heap.size, 2, none⟩) (show w.heap.size < w.heap.size + 2 by omega) (.slice vo (allTo Ss r).length vc)).mono (show w.heap.size ≤ w.heap.size + 2 by omega))
          clear T3 htri hown hb hbw T0 T1 TA OA BA B0
          generalize (allTo Ss r).length = NZ at *
          go_wp2_with fail
          generalize ((wr.setCell ⟨w.heap.size, 0, none⟩ (.int .i64 (WT : Int))).setCell ⟨w.heap.size, 1, none⟩ (.int .i64 (r : Int))).setCell ⟨w.heap.size, 2, none⟩ (.slice vo NZ vc) = wf at *
          clear z0 z1 z2
          obtain ⟨z0, z1, z2⟩ := TZ.out
          exact bodyPost_ret (v := .agg #[.int .i64 (WT : Int), .int .i64 (r : Int), .slice vo NZ vc]) (by simp [results, Tryz.results35, go_sem, z0, z1, z2]) rfl ⟨_, by rw [HWT.out], OZ.out, BZ.out⟩
end Go.Proofs.YtnnakmgngkpghaaGreat
