/- The contract of the program's CodeAll. -/
import Derived.Test.YtahknoeloclofaaAl
import Derived.Test.YtahknoeloclofaaFw
namespace Go.Proofs.Ytahknoeloclofaa
open Go.RowKit
set_option linter.unusedVariables false

/-- What CodeAll answers for a right row. -/
def allY (q : Option (List Int × Int × Int)) : ByteArray × Bool := match q with
  | none => (⟨#[]⟩, false)
  | some (o, l, _) => if 60000 < o.length then (⟨#[]⟩, false) else (strOfNums (o ++ wordBytes l), true)
theorem allR_yes {bs ps : List Int} (h : rowOk bs ps = true) : allR bs ps = allY (cAt bs ps bs.length) := by
  unfold allR
  rw [if_pos h]
  rfl
theorem allR_no {bs ps : List Int} (h : rowOk bs ps = false) : allR bs ps = (⟨#[]⟩, false) := by
  unfold allR
  rw [if_neg (by rw [h]; decide)]
theorem allY_some {q : Option (List Int × Int × Int)} {o : List Int} {l h : Int} (e : q = some (o, l, h)) (hn : o.length ≤ 60000) : allY q = (strOfNums o ++ strOfNums (wordBytes l), true) := by
  rw [e, ← strOf_app]
  simp only [allY]
  rw [if_neg (by omega)]
theorem allY_long {q : Option (List Int × Int × Int)} {o : List Int} {l h : Int} (e : q = some (o, l, h)) (hn : 60000 < o.length) : allY q = (⟨#[]⟩, false) := by
  rw [e]
  simp only [allY]
  rw [if_pos hn]
theorem allY_none {q : Option (List Int × Int × Int)} (e : q = none) : allY q = (⟨#[]⟩, false) := by
  rw [e]
  rfl

set_option maxRecDepth 100000 in
set_option maxHeartbeats 3200000 in
theorem impl_all_yes (ao bo : Option Addr) (cap cap' n : Nat) (bs ps : List Int) (w : World) (hn : n ≤ 480000) (hv : View .i64 w ao n bs) (hu : View .i64 w bo n ps) (hb : bitsOk bs) (hp : chsOk ps) :
    Calls Try.prog 11 #[.slice ao n cap, .slice bo n cap'] w fun e w' => e = .returned (.tuple #[.string (allY (cAt bs ps n)).1, .bool (allY (cAt bs ps n)).2]) ∧ Below w.heap.size w w' := by
  have HAB : Hid (∀ q, Below w.heap.size w q → Calls Try.prog 37 #[.slice ao n cap] q fun e w' => e = .returned (.bool true) ∧ q = w') := fun q hq => by
    have := are_bits ao cap bs q (by rw [hv.1]; omega) (by have := hv.below (Nat.le_refl _) hq; rw [hv.1]; exact this)
    rw [hv.1, decide_eq_true ((bitsOk_iff bs).1 hb)] at this
    exact this
  have HAC : Hid (∀ q, Below w.heap.size w q → Calls Try.prog 38 #[.slice bo n cap'] q fun e w' => e = .returned (.bool true) ∧ q = w') := fun q hq => by
    have := are_chances bo cap' ps q (by rw [hu.1]; omega) (by have := hu.below (Nat.le_refl _) hq; rw [hu.1]; exact this)
    rw [hu.1, decide_eq_true (show ∀ x ∈ ps, isCh x = true from hp)] at this
    exact this
  have HW := hid (fun q => impl_widest q)
  have HV := hid hv
  have HU := hid hu
  have HB := hid hb
  have HP := hid hp
  have h1 : ¬ (480000 : Int) < (n : Int) := by omega
  have HN := hid hn
  obtain ⟨RS, hRS⟩ : ∃ R, allY (cAt bs ps n) = R := ⟨_, rfl⟩
  have HR := hid hRS
  rw [hRS]
  obtain ⟨RS, RB⟩ := RS
  clear hv hu hb hp hn hRS
  go_enter Try.func11, Try.ntmps11
  go_wp2_with (first | (go_at_call 37; refine (HAB.out _ (Below.refl _ _)).mono ?_; rintro e w1 ⟨rfl, rfl⟩) | (go_at_call 38; refine (HAC.out _ (Below.refl _ _)).mono ?_; rintro e w1 ⟨rfl, rfl⟩))
  refine (HW.out _).mono ?_
  rintro e w1 ⟨rfl, hb1⟩
  have hz := hid ((Below.refl w1.heap.size w1).alloc (Nat.le_refl _) (.cells #[.int .u32 0, .int .u32 4294967295, .slice none 0 0] 65))
  have B1 := hid (hb1.trans (hz.out.mono hb1.size))
  have R1 := hid (Blk.new w1 [.int .u32 0, .int .u32 4294967295, .slice none 0 0] 65)
  have hG := hid hb1.size
  clear hb1 hz HAB HAC HW
  go_wp2_with fail
  generalize w1.alloc (.cells #[.int .u32 0, .int .u32 4294967295, .slice none 0 0] 65) = W1 at *
  generalize w1.heap.size = G at *
  go_loopw [33] (fun i wr => ∃ (k : Nat) (o : List Int) (l h : Int) (v : Value), k ≤ n ∧ i = .int .i64 k ∧ Hid (cAt bs ps k = some (o, l, h) ∧ CK o l h) ∧ Wst wr G [] 65 l h v o ∧ Below w.heap.size w wr) (fun i _ => n - (intOf i).toNat)
  case atStart => exact ⟨0, [], 0, 4294967295, .slice none 0 0, by omega, rfl, ⟨rfl, CK.zero⟩, ⟨R1.out, Own.nil _ _ _ _ (Nat.succ_le_of_lt R1.out.lt)⟩, B1.out⟩
  case round =>
    obtain ⟨k, o, l, h, v, hk, rfl, hrec, hW, hB⟩ := hrel
    clear R1 B1
    have HWs := hid hW
    have HBr := hid hB
    obtain ⟨vo, vc, rfl⟩ := hW.2.shape
    have HO := hid hW.2
    have p0 := hW.1.cell (i := 0) rfl
    have p1 := hW.1.cell (i := 1) rfl
    have p2 := hW.1.cell (i := 2) rfl
    have hFu := hid (full_any G l h _ o wr (by have := hrec.out.2.2.2.2.1; omega) hW)
    clear hW hB
    by_cases hlt : k < n
    · have hlt' : (k : Int) < (n : Int) := by omega
      obtain ⟨b, off, rfl, hc⟩ := HV.out.2 k hlt
      obtain ⟨b', off', rfl, hc'⟩ := HU.out.2 k hlt
      have hcr : wr.cell? ⟨b, off + k, none⟩ = some (.int .i64 (bs.getD k 0)) := (HBr.out.cell (p := ⟨b, off + k, none⟩) (World.block_lt_of_cell? w _ hc)).trans hc
      have hcr' : wr.cell? ⟨b', off' + k, none⟩ = some (.int .i64 (ps.getD k 0)) := (HBr.out.cell (p := ⟨b', off' + k, none⟩) (World.block_lt_of_cell? w _ hc')).trans hc'
      have hbit := bitsOk_at HB.out (k := k) (by rw [HV.out.1]; exact hlt)
      have hch := chsOk_at HP.out (k := k) (by rw [HU.out.1]; exact hlt)
      by_cases hf : 60000 ≤ o.length
      · have hd : decide ((60000 : Int) ≤ (o.length : Int)) = true := decide_eq_true (by omega)
        rw [hd] at hFu
        have HE : Hid (RS = ⟨#[]⟩ ∧ RB = false) := by
          have h1 := cAt_none (cAt_full hrec.out.1 hf) (n - (k + 1))
          rw [show k + 1 + (n - (k + 1)) = n by omega] at h1
          have h2 := HR.out
          rw [allY_none h1] at h2
          cases h2
          exact ⟨rfl, rfl⟩
        obtain ⟨rfl, rfl⟩ := HE.out
        clear HE hd hf hc hc' hbit hch p0 p1 p2
        generalize bs.getD k 0 = X at *
        generalize ps.getD k 0 = Y at *
        go_wp2_with fail
        refine hFu.out.mono ?_
        rintro e w2 ⟨rfl, rfl⟩
        go_wp2_with fail
        go_ret2
        exact ⟨rfl, HBr.out⟩
      · have hd : decide ((60000 : Int) ≤ (o.length : Int)) = false := decide_eq_false (by omega)
        rw [hd] at hFu
        have HST := hid (cAt_some hrec.out.1 (Nat.lt_of_not_le hf))
        have HCK := hid (hrec.out.2.step (b := bs.getD k 0) (Nat.lt_of_not_le hf) hch)
        have HPA := hid (put_yes G [] 65 l h (bs.getD k 0) (ps.getD k 0) _ o wr hrec.out.2.1 hrec.out.2.2.1 (by omega) (by omega) (Int.le_of_lt hrec.out.2.2.2.1) HWs.out)
        clear hd hf hc hc' hbit hch p0 p1 p2
        generalize bs.getD k 0 = X at *
        generalize ps.getD k 0 = Y at *
        go_wp2_with fail
        refine hFu.out.mono ?_
        rintro e w2 ⟨rfl, rfl⟩
        go_wp2_with fail
        refine HPA.out.mono ?_
        rintro e w2 ⟨rfl, ⟨v', hst⟩, hb2⟩
        have HST2 := hid hst
        have HB2 := hid (HBr.out.trans (hb2.mono hG.out))
        clear hst hb2
        go_wp2_with fail
        go_roundw
        case rel => exact ⟨k + 1, _, _, _, v', by omega, by go_num, ⟨HST.out, HCK.out⟩, HST2.out, HB2.out⟩
        case measure => simp [intOf]; omega
    · obtain rfl : k = n := by omega
      by_cases hl6 : 60000 < o.length
      · have hd : decide ((60000 : Int) < (o.length : Int)) = true := decide_eq_true (by omega)
        have HE : Hid (RS = ⟨#[]⟩ ∧ RB = false) := by
          have h2 := HR.out
          rw [allY_long hrec.out.1 hl6] at h2
          cases h2
          exact ⟨rfl, rfl⟩
        obtain ⟨rfl, rfl⟩ := HE.out
        clear HE hl6 hlt hk
        go_wp2_with fail
        go_ret2
        exact ⟨rfl, HBr.out⟩
      · have hd : decide ((60000 : Int) < (o.length : Int)) = false := decide_eq_false (by omega)
        have HE : Hid (RS = strOfNums o ++ strOfNums (wordBytes l) ∧ RB = true) := by
          have h2 := HR.out
          rw [allY_some hrec.out.1 (by omega)] at h2
          cases h2
          exact ⟨rfl, rfl⟩
        obtain ⟨rfl, rfl⟩ := HE.out
        have HEN := hid (fun q => impl_end l h (strOfNums o) q hrec.out.2.1 (by rw [strOf_size]; omega))
        have HFA := hid (face_w [] 65 G l h _ o ⟨#[]⟩ wr (by decide) (by omega) HWs.out)
        have e0 : (⟨#[]⟩ : ByteArray) ++ strOfNums o = strOfNums o := by
          apply ByteArray.ext
          simp
        rw [e0] at HFA
        clear HE hl6 hlt hk e0
        unfold cV at HEN HFA
        go_wp2_with fail
        refine HFA.out.mono ?_
        rintro e w3 ⟨rfl, hb3⟩
        have HB3 := hid (HBr.out.trans (hb3.mono HBr.out.size))
        clear hb3
        go_wp2_with fail
        refine (HEN.out w3).mono ?_
        rintro e w2 ⟨rfl, hb2⟩
        have HB2 := hid (HB3.out.trans (hb2.mono HB3.out.size))
        clear hb2
        go_wp2_with fail
        go_ret2
        exact ⟨rfl, HB2.out⟩

set_option maxRecDepth 100000 in
set_option maxHeartbeats 1600000 in
theorem impl_all_no (ao bo : Option Addr) (cap cap' : Nat) (bs ps : List Int) (w : World) (hn : bs.length ≤ 1048576) (hm : ps.length ≤ 1048576) (hv : View .i64 w ao bs.length bs) (hu : View .i64 w bo ps.length ps) (hno : rowOk bs ps = false) :
    Calls Try.prog 11 #[.slice ao bs.length cap, .slice bo ps.length cap'] w fun e w' => e = .returned (.tuple #[.string ⟨#[]⟩, .bool false]) ∧ Below w.heap.size w w' := by
  have HAB := hid (are_bits ao cap bs w hn hv)
  have HAC := hid (are_chances bo cap' ps w hm hu)
  unfold rowOk at hno
  replace hno := of_decide_eq_false hno
  by_cases e1 : bs.length = ps.length
  · rw [← e1] at HAC ⊢
    by_cases e2 : bs.length ≤ 480000
    · have h2 : ¬ (480000 : Int) < (bs.length : Int) := by omega
      by_cases e3 : bitsOk bs
      · rw [decide_eq_true ((bitsOk_iff bs).1 e3)] at HAB
        have e4 : ¬ ∀ x ∈ ps, isCh x = true := fun h => hno ⟨e1, e2, e3, h⟩
        rw [decide_eq_false e4] at HAC
        clear hno e1 e2 e3 e4 hn hm hv hu
        generalize bs.length = n at *
        go_enter Try.func11, Try.ntmps11
        go_wp2_with (first | (go_at_call 37; refine HAB.out.mono ?_; rintro e w1 ⟨rfl, rfl⟩) | (go_at_call 38; refine HAC.out.mono ?_; rintro e w1 ⟨rfl, rfl⟩))
        go_ret2
        exact ⟨rfl, Below.refl _ _⟩
      · rw [decide_eq_false (fun h => e3 ((bitsOk_iff bs).2 h))] at HAB
        clear hno e1 e2 e3 hn hm hv hu HAC
        generalize bs.length = n at *
        go_enter Try.func11, Try.ntmps11
        go_wp2_with (first | (go_at_call 37; refine HAB.out.mono ?_; rintro e w1 ⟨rfl, rfl⟩))
        go_ret2
        exact ⟨rfl, Below.refl _ _⟩
    · have h2 : (480000 : Int) < (bs.length : Int) := by omega
      clear hno e1 e2 hn hm hv hu HAC HAB
      generalize bs.length = n at *
      go_enter Try.func11, Try.ntmps11
      go_wp2_with fail
      go_ret2
      exact ⟨rfl, Below.refl _ _⟩
  · have h2 : ¬ ((bs.length : Int) = (ps.length : Int)) := by omega
    clear hno hn hm hv hu HAC HAB
    generalize bs.length = n at *
    generalize ps.length = m at *
    go_enter Try.func11, Try.ntmps11
    go_wp2_with fail
    go_ret2
    exact ⟨rfl, Below.refl _ _⟩

theorem impl_all (ao bo : Option Addr) (cap cap' : Nat) (bs ps : List Int) (w : World) (hn : bs.length ≤ 1048576) (hm : ps.length ≤ 1048576) (hv : View .i64 w ao bs.length bs) (hu : View .i64 w bo ps.length ps) :
    Calls Try.prog 11 #[.slice ao bs.length cap, .slice bo ps.length cap'] w fun e w' => e = .returned (.tuple #[.string (allR bs ps).1, .bool (allR bs ps).2]) ∧ Below w.heap.size w w' := by
  cases h : rowOk bs ps with
  | true =>
    rw [allR_yes h]
    unfold rowOk at h
    obtain ⟨e1, e2, e3, e4⟩ := of_decide_eq_true h
    rw [← e1] at hu ⊢
    exact impl_all_yes ao bo cap cap' bs.length bs ps w e2 hv hu e3 e4
  | false =>
    rw [allR_no h]
    exact impl_all_no ao bo cap cap' bs ps w hn hm hv hu h
end Go.Proofs.Ytahknoeloclofaa
