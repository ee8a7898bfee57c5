/- Contracts of the program's walk over a row, NextSlot and PlanNum. -/
import Derived.Test.YtckpdmgmeolepaaWt
namespace Go.Proofs.Ytckpdmgmeolepaa
open Go.RowKit
set_option linter.unusedVariables false

theorem over_take {s : Wk} {l : List Int} {k : Nat} (hk : k < l.length) : ∀ {t : Wk}, wkOver s (l.take k) = some t → wkOver s (l.take (k + 1)) = if isBi (l.getD k 0) = true ∧ t.part ≠ 4 then some (wkTake t (l.getD k 0)) else none := by
  induction k generalizing s l with
  | zero =>
    intro t ht
    cases l with
    | nil => simp at hk
    | cons b l =>
      simp only [List.take_zero, wkOver, Option.some.injEq] at ht
      subst ht
      simp [wkOver]
  | succ k ih =>
    intro t ht
    cases l with
    | nil => simp at hk
    | cons b l =>
      simp only [List.length_cons] at hk
      rw [List.take_succ_cons, wkOver] at ht ⊢
      by_cases h : isBi b = true ∧ s.part ≠ 4
      · rw [if_pos h] at ht ⊢
        rw [ih (by omega) ht]
        simp
      · rw [if_neg h] at ht
        cases ht
theorem over_stop {s : Wk} {l : List Int} {k : Nat} (h : wkOver s (l.take k) = none) : wkOver s l = none := by
  induction k generalizing s l with
  | zero => simp [wkOver] at h
  | succ k ih =>
    cases l with
    | nil => simp [wkOver] at h
    | cons b l =>
      rw [List.take_succ_cons, wkOver] at h
      rw [wkOver]
      by_cases c : isBi b = true ∧ s.part ≠ 4
      · rw [if_pos c] at h ⊢
        exact ih h
      · rw [if_neg c]
theorem over_ok {l : List Int} : ∀ {s : Wk}, WkOk s → ∀ t, wkOver s l = some t → WkOk t := by
  induction l with
  | nil =>
    intro s hs t ht
    rw [wkOver] at ht
    cases ht
    exact hs
  | cons b l ih =>
    intro s hs t ht
    rw [wkOver] at ht
    by_cases c : isBi b = true ∧ s.part ≠ 4
    · rw [if_pos c] at ht
      exact ih (hs.take ((isBi_iff b).1 c.1)) t ht
    · rw [if_neg c] at ht
      cases ht
/-- What the walk over a row leaves. -/
def ovV (o : Option Wk) : Value := match o with
  | some s => .tuple #[wkV s, .bool true]
  | none => .tuple #[wkV wk0, .bool false]

theorem below5 {w q : World} (h : Below w.heap.size w q) (a b c d e : Value) : Below w.heap.size w (((((q.setCell ⟨w.heap.size, 0, none⟩ a).setCell ⟨w.heap.size, 1, none⟩ b).setCell ⟨w.heap.size, 2, none⟩ c).setCell ⟨w.heap.size, 3, none⟩ d).setCell ⟨w.heap.size, 4, none⟩ e) :=
  ((((h.setCell (p := ⟨w.heap.size, 0, none⟩) (Nat.le_refl _) _).setCell (p := ⟨w.heap.size, 1, none⟩) (Nat.le_refl _) _).setCell (p := ⟨w.heap.size, 2, none⟩) (Nat.le_refl _) _).setCell (p := ⟨w.heap.size, 3, none⟩) (Nat.le_refl _) _).setCell (p := ⟨w.heap.size, 4, none⟩) (Nat.le_refl _) _

set_option maxRecDepth 100000 in
set_option maxHeartbeats 1600000 in
theorem walk_over (ao : Option Addr) (n cap : Nat) (xs : List Int) (w : World) (hn : n ≤ 1048576) (hv : View .i64 w ao n xs) :
    Calls Try.prog 41 #[.slice ao n cap] w fun e w' => e = .returned (ovV (wkOver wk0 xs)) ∧ Below w.heap.size w w' := by
  have HV := hid hv
  have HIB := hid (fun (y : Int) (q : World) => wk_bit y q)
  obtain ⟨R, hR⟩ : ∃ R, wkOver wk0 xs = R := ⟨_, rfl⟩
  have HR := hid hR
  rw [hR]
  clear hR hv
  obtain ⟨QQ, hQ, HQ⟩ : ∃ QQ : Ending → World → Prop, (fun e w' => e = .returned (ovV R) ∧ Below w.heap.size w w') = QQ ∧ Hid (∀ e w', e = .returned (ovV R) ∧ Below w.heap.size w w' → QQ e w') := ⟨_, rfl, fun _ _ h => h⟩
  rw [hQ]
  clear hQ
  go_enter Try.func41, Try.ntmps41
  go_wp2_with fail
  obtain ⟨n1, n2, n3⟩ := new_two w (wkC wk0) (wkC wk0) 56 56
  have N1 := hid n1
  have N2 := hid n2
  have N3 := hid n3
  clear n1 n2 n3
  go_loopw [10] (fun i wr => ∃ (k : Nat) (s : Wk), k ≤ n ∧ i = .int .i64 k ∧ Hid (wkOver wk0 (xs.take k) = some s ∧ WkOk s) ∧ Blk wr (w.heap.size + 1) (wkC s) 56 ∧ Blk wr w.heap.size (wkC wk0) 56 ∧ Below w.heap.size w wr) (fun i _ => n - (intOf i).toNat)
  case atStart => exact ⟨0, wk0, by omega, rfl, ⟨by simp [wkOver], WkOk.zero⟩, N2.out, N1.out, N3.out⟩
  case round =>
    obtain ⟨k, s, hk, rfl, hrec, hB, hA, hW⟩ := hrel
    clear N1 N2 N3
    have HB := hid hB
    have HA := hid hA
    have HW := hid hW
    have q0 := hB.cell (i := 0) rfl
    have q1 := hB.cell (i := 1) rfl
    have q2 := hB.cell (i := 2) rfl
    have q3 := hB.cell (i := 3) rfl
    have q4 := hB.cell (i := 4) rfl
    have r0 := hA.cell (i := 0) rfl
    have r1 := hA.cell (i := 1) rfl
    have r2 := hA.cell (i := 2) rfl
    have r3 := hA.cell (i := 3) rfl
    have r4 := hA.cell (i := 4) rfl
    have y0 := hA.free 0
    have y1 := hA.free 1
    have y2 := hA.free 2
    have y3 := hA.free 3
    have y4 := hA.free 4
    clear hB hA hW
    by_cases hlt : k < n
    · obtain ⟨b, off, rfl, hc⟩ := HV.out.2 k hlt
      have hlt' : (k : Int) < (n : Int) := by omega
      have hcr : wr.cell? ⟨b, off + k, none⟩ = some (.int .i64 (xs.getD k 0)) := (HW.out.cell (p := ⟨b, off + k, none⟩) (World.block_lt_of_cell? w _ hc)).trans hc
      have HS := hid (over_take (by rw [HV.out.1]; exact hlt) hrec.out.1)
      have HNO := hid (fun h => over_stop (s := wk0) (l := xs) (k := k + 1) h)
      have HK := HIB.out (xs.getD k 0) wr
      generalize xs.getD k 0 = X at *
      clear hc
      cases hX : isBi X with
      | true =>
        rw [hX] at HK
        have HK2 := hid HK
        have hX01 := hid ((isBi_iff X).1 hX)
        have HTo := wk_told s wr
        unfold wkV at HTo
        clear HK
        by_cases h4 : s.part = 4
        · rw [decide_eq_true h4] at HTo
          have HT2 := hid HTo
          rw [if_neg (fun h => h.2 h4)] at HS
          have HE : Hid (R = none) := by rw [← HR.out]; exact HNO.out HS.out
          obtain rfl : R = none := HE.out
          clear HTo h4 hX HE
          go_wp2_with fail
          refine HK2.out.mono ?_
          rintro e w1 ⟨rfl, rfl⟩
          go_wp2_with fail
          refine HT2.out.mono ?_
          rintro e w1 ⟨rfl, hb1⟩
          have HA1 := hid (HA.out.below hb1 HA.out.lt)
          have HW1 := hid (HW.out.trans (hb1.mono HW.out.size))
          have r0 := HA1.out.cell (i := 0) rfl
          have r1 := HA1.out.cell (i := 1) rfl
          have r2 := HA1.out.cell (i := 2) rfl
          have r3 := HA1.out.cell (i := 3) rfl
          have r4 := HA1.out.cell (i := 4) rfl
          have y0 := HA1.out.free 0
          have y1 := HA1.out.free 1
          have y2 := HA1.out.free 2
          have y3 := HA1.out.free 3
          have y4 := HA1.out.free 4
          clear hb1
          go_wp2_with fail
          refine bodyPost_ret (v := .tuple #[.agg #[.int .i64 0, .bool false, .int .i64 0, .int .i64 0, .int .i64 0], .bool false]) (by simp [results, Try.results41, go_sem, r0, r1, r2, r3, r4]) rfl ?_
          exact HQ.out _ _ ⟨rfl, below5 HW1.out _ _ _ _ _⟩
        · rw [decide_eq_false h4] at HTo
          have HT2 := hid HTo
          rw [if_pos ⟨hX, h4⟩] at HS
          have HTA := hid (fun q (hq : Blk q (w.heap.size + 1) (wkC s) 56) => wk_take (w.heap.size + 1) s X q hX01.out hrec.out.2 h4 hq)
          have HOK := hid (hrec.out.2.take hX01.out)
          clear HTo h4 hX
          go_wp2_with fail
          refine HK2.out.mono ?_
          rintro e w1 ⟨rfl, rfl⟩
          go_wp2_with fail
          refine HT2.out.mono ?_
          rintro e w1 ⟨rfl, hb1⟩
          have HA1 := hid (HA.out.below hb1 HA.out.lt)
          have HB1 := hid (HB.out.below hb1 HB.out.lt)
          have HW1 := hid (HW.out.trans (hb1.mono HW.out.size))
          clear hb1
          go_wp2_with fail
          refine (HTA.out w1 HB1.out).mono ?_
          rintro e w2 ⟨rfl, hb2, he2⟩
          have HA2 := hid (HA1.out.ef he2 (by omega))
          have HB2 := hid hb2
          have HW2 := hid (HW1.out.trans (he2.below (by omega) HW1.out.size))
          clear hb2 he2
          go_wp2_with fail
          go_roundw
          case rel => exact ⟨k + 1, _, by omega, by go_num, ⟨HS.out, HOK.out⟩, HB2.out, HA2.out, HW2.out⟩
          case measure => simp [intOf]; omega
      | false =>
        rw [hX] at HK
        have HK2 := hid HK
        rw [if_neg (fun h => by rw [hX] at h; exact absurd h.1 (by decide))] at HS
        have HE : Hid (R = none) := by rw [← HR.out]; exact HNO.out HS.out
        obtain rfl : R = none := HE.out
        clear HK hX HE
        go_wp2_with fail
        refine HK2.out.mono ?_
        rintro e w1 ⟨rfl, rfl⟩
        go_wp2_with fail
        refine bodyPost_ret (v := .tuple #[.agg #[.int .i64 0, .bool false, .int .i64 0, .int .i64 0, .int .i64 0], .bool false]) (by simp [results, Try.results41, go_sem, r0, r1, r2, r3, r4]) rfl ?_
        exact HQ.out _ _ ⟨rfl, below5 HW.out _ _ _ _ _⟩
    · obtain rfl : k = n := by omega
      have HE : Hid (R = some s) := by
        have h1 := hrec.out.1
        rw [List.take_of_length_le (by rw [HV.out.1]; exact Nat.le_refl _)] at h1
        rw [← HR.out]
        exact h1
      obtain rfl : R = some s := HE.out
      clear hlt hk HE
      go_wp2_with fail
      refine bodyPost_ret (v := .tuple #[.agg #[.int .i64 s.part, .bool s.below, .int .i64 s.size, .int .i64 s.amount, .int .i64 s.rest], .bool true]) (by simp [results, Try.results41, go_sem, r0, r1, r2, r3, r4]) rfl ?_
      exact HQ.out _ _ ⟨rfl, below5 HW.out _ _ _ _ _⟩

set_option maxRecDepth 100000 in
set_option maxHeartbeats 1600000 in
theorem impl_next (ao : Option Addr) (n cap : Nat) (xs : List Int) (w : World) (hn : n ≤ 1048576) (hv : View .i64 w ao n xs) :
    Calls Try.prog 15 #[.slice ao n cap] w fun e w' => e = .returned (.int .i64 (max (-1) (nextS xs).1)) ∧ Below w.heap.size w w' := by
  have HO := hid (walk_over ao n cap xs w hn hv)
  have hN : nextS xs = outI (wkOver wk0 xs) := (next_eq xs).symm
  rw [hN]
  have hok := over_ok (l := xs) WkOk.zero
  clear hN hv
  generalize wkOver wk0 xs = R at *
  cases R with
  | none =>
    show Calls Try.prog 15 #[.slice ao n cap] w fun e w' => e = .returned (.int .i64 (-1)) ∧ Below w.heap.size w w'
    unfold ovV wkV at HO
    go_enter Try.func15, Try.ntmps15
    go_wp2_with fail
    refine HO.out.mono ?_
    rintro e w1 ⟨rfl, hb1⟩
    have HB := hid hb1
    clear hb1
    go_wp2_with fail
    go_ret
    exact ⟨rfl, HB.out.alloc HB.out.size _⟩
  | some s =>
    have ho := hok s rfl
    have HTo := fun q => wk_told s q
    have HSl := fun (h : s.part ≠ 4) q => wk_slot s q (ho.bounds h).1 (ho.bounds h).2.1 (ho.bounds h).2.2.1 (ho.bounds h).2.2.2.1
    have hS0 : s.part ≠ 4 → max (-1) (wkSlot s) = wkSlot s := fun h => by
      have := ho.bounds h
      unfold wkSlot
      omega
    unfold ovV wkV at HO
    unfold wkV at HTo HSl
    by_cases h4 : s.part = 4
    · simp only [outI, h4, if_true]
      show Calls Try.prog 15 #[.slice ao n cap] w fun e w' => e = .returned (.int .i64 (-1)) ∧ Below w.heap.size w w'
      rw [decide_eq_true h4] at HTo
      have HT2 := hid HTo
      clear HTo HSl hS0 ho hok h4
      go_enter Try.func15, Try.ntmps15
      go_wp2_with fail
      refine HO.out.mono ?_
      rintro e w1 ⟨rfl, hb1⟩
      have HB := hid (hb1.alloc hb1.size (.cells #[.int .i64 s.part, .bool s.below, .int .i64 s.size, .int .i64 s.amount, .int .i64 s.rest] 56))
      clear hb1
      go_wp2_with fail
      refine (HT2.out _).mono ?_
      generalize w1.alloc (.cells #[.int .i64 s.part, .bool s.below, .int .i64 s.size, .int .i64 s.amount, .int .i64 s.rest] 56) = w2 at *
      rintro e w3 ⟨rfl, hb3⟩
      have HB3 := hid (HB.out.trans (hb3.mono HB.out.size))
      clear hb3
      go_wp2_with fail
      go_ret
      exact ⟨rfl, HB3.out⟩
    · simp only [outI, h4, if_false]
      rw [hS0 h4]
      rw [decide_eq_false h4] at HTo
      have HT2 := hid HTo
      have HS2 := hid (HSl h4)
      clear HTo HSl hS0 ho hok h4
      go_enter Try.func15, Try.ntmps15
      go_wp2_with fail
      refine HO.out.mono ?_
      rintro e w1 ⟨rfl, hb1⟩
      have HB := hid (hb1.alloc hb1.size (.cells #[.int .i64 s.part, .bool s.below, .int .i64 s.size, .int .i64 s.amount, .int .i64 s.rest] 56))
      have HN := hid (Blk.new w1 [.int .i64 s.part, .bool s.below, .int .i64 s.size, .int .i64 s.amount, .int .i64 s.rest] 56)
      clear hb1
      go_wp2_with fail
      refine (HT2.out _).mono ?_
      generalize w1.alloc (.cells #[.int .i64 s.part, .bool s.below, .int .i64 s.size, .int .i64 s.amount, .int .i64 s.rest] 56) = w2 at *
      rintro e w3 ⟨rfl, hb3⟩
      have HB3 := hid (HB.out.trans (hb3.mono HB.out.size))
      have HN3 := hid (HN.out.below hb3 HN.out.lt)
      have q0 := HN3.out.cell (i := 0) rfl
      have q1 := HN3.out.cell (i := 1) rfl
      have q2 := HN3.out.cell (i := 2) rfl
      have q3 := HN3.out.cell (i := 3) rfl
      have q4 := HN3.out.cell (i := 4) rfl
      clear hb3
      go_wp2_with fail
      refine (HS2.out _).mono ?_
      rintro e w4 ⟨rfl, hb4⟩
      have HB4 := hid (HB3.out.trans (hb4.mono HB3.out.size))
      clear hb4
      go_wp2_with fail
      go_ret
      exact ⟨rfl, HB4.out⟩

/-- What PlanNum answers. -/
def pnV (l : List Int) : Value := if (nextS l).1 = -1 then .tuple #[.int .i64 (nextS l).2, .bool true] else .tuple #[.int .i64 0, .bool false]

set_option maxRecDepth 100000 in
set_option maxHeartbeats 1600000 in
theorem impl_planNum (ao : Option Addr) (n cap : Nat) (xs : List Int) (w : World) (hn : n ≤ 1048576) (hv : View .i64 w ao n xs) :
    Calls Try.prog 16 #[.slice ao n cap] w fun e w' => e = .returned (pnV xs) ∧ Below w.heap.size w w' := by
  have HO := hid (walk_over ao n cap xs w hn hv)
  have hN : nextS xs = outI (wkOver wk0 xs) := (next_eq xs).symm
  unfold pnV
  rw [hN]
  have hok := over_ok (l := xs) WkOk.zero
  clear hN hv
  generalize wkOver wk0 xs = R at *
  cases R with
  | none =>
    show Calls Try.prog 16 #[.slice ao n cap] w fun e w' => e = .returned (.tuple #[.int .i64 0, .bool false]) ∧ Below w.heap.size w w'
    unfold ovV wkV at HO
    go_enter Try.func16, Try.ntmps16
    go_wp2_with fail
    refine HO.out.mono ?_
    rintro e w1 ⟨rfl, hb1⟩
    have HB := hid hb1
    clear hb1
    go_wp2_with fail
    go_ret2
    exact ⟨rfl, HB.out.alloc HB.out.size _⟩
  | some s =>
    have ho := hok s rfl
    have HTo := fun q => wk_told s q
    have HNu := fun q => wk_number s q ho.amount.1 (by have := ho.amount.2; omega)
    unfold ovV wkV at HO
    unfold wkV at HTo HNu
    by_cases h4 : s.part = 4
    · simp only [outI, h4, if_true]
      rw [decide_eq_true h4] at HTo
      have HT2 := hid HTo
      have HN2 := hid HNu
      clear HTo HNu ho hok h4
      go_enter Try.func16, Try.ntmps16
      go_wp2_with fail
      refine HO.out.mono ?_
      rintro e w1 ⟨rfl, hb1⟩
      have HB := hid (hb1.alloc hb1.size (.cells #[.int .i64 s.part, .bool s.below, .int .i64 s.size, .int .i64 s.amount, .int .i64 s.rest] 56))
      have HN := hid (Blk.new w1 [.int .i64 s.part, .bool s.below, .int .i64 s.size, .int .i64 s.amount, .int .i64 s.rest] 56)
      clear hb1
      go_wp2_with fail
      refine (HT2.out _).mono ?_
      generalize w1.alloc (.cells #[.int .i64 s.part, .bool s.below, .int .i64 s.size, .int .i64 s.amount, .int .i64 s.rest] 56) = w2 at *
      rintro e w3 ⟨rfl, hb3⟩
      have HB3 := hid (HB.out.trans (hb3.mono HB.out.size))
      have HN3 := hid (HN.out.below hb3 HN.out.lt)
      have q0 := HN3.out.cell (i := 0) rfl
      have q1 := HN3.out.cell (i := 1) rfl
      have q2 := HN3.out.cell (i := 2) rfl
      have q3 := HN3.out.cell (i := 3) rfl
      have q4 := HN3.out.cell (i := 4) rfl
      clear hb3
      go_wp2_with fail
      refine (HN2.out _).mono ?_
      rintro e w4 ⟨rfl, hb4⟩
      have HB4 := hid (HB3.out.trans (hb4.mono HB3.out.size))
      clear hb4
      go_wp2_with fail
      go_ret2
      exact ⟨rfl, HB4.out⟩
    · have hs0 : 0 ≤ wkSlot s := by
        have := ho.bounds h4
        unfold wkSlot
        omega
      simp only [outI, h4, if_false]
      rw [if_neg (by omega)]
      rw [decide_eq_false h4] at HTo
      have HT2 := hid HTo
      clear HTo HNu ho hok h4 hs0
      go_enter Try.func16, Try.ntmps16
      go_wp2_with fail
      refine HO.out.mono ?_
      rintro e w1 ⟨rfl, hb1⟩
      have HB := hid (hb1.alloc hb1.size (.cells #[.int .i64 s.part, .bool s.below, .int .i64 s.size, .int .i64 s.amount, .int .i64 s.rest] 56))
      clear hb1
      go_wp2_with fail
      refine (HT2.out _).mono ?_
      generalize w1.alloc (.cells #[.int .i64 s.part, .bool s.below, .int .i64 s.size, .int .i64 s.amount, .int .i64 s.rest] 56) = w2 at *
      rintro e w3 ⟨rfl, hb3⟩
      have HB3 := hid (HB.out.trans (hb3.mono HB.out.size))
      clear hb3
      go_wp2_with fail
      go_ret2
      exact ⟨rfl, HB3.out⟩
end Go.Proofs.Ytckpdmgmeolepaa
