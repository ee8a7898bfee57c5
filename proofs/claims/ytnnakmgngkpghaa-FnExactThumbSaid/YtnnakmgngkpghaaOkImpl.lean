/- Contracts of countsTold, areSymsApart and CodesOk of the program. -/
import Derived.Test.YtnnakmgngkpghaaOkPlain
namespace Go.Proofs.Ytnnakmgngkpghaa
open Go.RowKit
set_option linter.unusedVariables false

theorem isSym_any (x : Int) (w : World) :
    Calls Try.prog 79 #[.int .i64 x] w fun e w' => e = .returned (.bool (inB x)) ∧ w' = w := by
  by_cases h1 : 0 ≤ x <;> by_cases h2 : x < 256
  all_goals
    go_enter Try.func79, Try.ntmps79
    go_wp2
    go_ret
    exact ⟨by simp [inB, h1]; omega, rfl⟩

theorem zero87 : Try.zeroCells123.size = 256 ∧ (Try.zeroCells123.all (·.oneCell')) = true ∧ (Try.prog.info? 123).map (·.size) = some 256 := ⟨by kernel_rfl, by kernel_rfl, by kernel_rfl⟩
theorem zero87_eq : Try.zeroCells123 = Array.replicate 256 (.bool false) := by kernel_rfl
theorem zero87_at (j : Nat) (h : j < 256) : Try.zeroCells123[j]? = some (.bool false) := by
  rw [zero87_eq]
  simp [h]

set_option maxHeartbeats 1600000 in
theorem apart_any (ao : Option Addr) (n cap : Nat) (xs : List Int) (w : World) (hn : n ≤ 1048576) (hv : View .i64 w ao n xs) :
    Calls Try.prog 75 #[.slice ao n cap] w fun e w' => e = .returned (.bool (apartTo xs n)) ∧ Below w.heap.size w w' := by
  have HV := hid hv
  have hst : Sem.run Try.prog (storeCells ⟨w.heap.size, 0, none⟩ Try.zeroCells123.toList) (w.alloc (.cells Try.zeroCells123 123)) = .ok () (w.alloc (.cells Try.zeroCells123 123)) :=
    run_storeCells_new w 123 _ _ (by rw [zero87.1]; exact zero87.2.2) rfl zero87.2.1
  clear hv
  go_enter Try.func75, Try.ntmps75
  go_wp2
  clear hst
  go_loopw [9] (fun i wr => ∃ (k : Nat) (cs : Array Value), k ≤ n ∧ i = .int .i64 k ∧ Hid (apartTo xs k = true) ∧ Hid (Arr wr w.heap.size cs 123) ∧ Hid (∀ j, j < 256 → cs[j]? = some (.bool (hasTo xs k j))) ∧ Hid (Below w.heap.size w wr)) (fun i _ => n - (intOf i).toNat)
  case atStart => exact ⟨0, Try.zeroCells123, by omega, rfl, rfl, Arr.new _ _ _, zero87_at, (Below.refl _ _).alloc (Nat.le_refl _) _⟩
  case round =>
    obtain ⟨k, cs, hk, rfl, hap, harr, hcs, hb⟩ := hrel
    by_cases hlt : k < n
    · obtain ⟨b, off, rfl, hc⟩ := HV.out.2 k hlt
      have hcr : wr.cell? ⟨b, off + k, none⟩ = some (.int .i64 (xs.getD k 0)) := (hb.out.cell (p := ⟨b, off + k, none⟩) (World.block_lt_of_cell? w _ hc)).trans hc
      have hlt' : (k : Int) < (n : Int) := by omega
      have HBAD := hid (fun h => apartTo_bad xs k h n hlt)
      have HST := hid (show apartTo xs (k + 1) = (apartTo xs k && (inB (xs.getD k 0) && !hasTo xs k (xs.getD k 0))) from rfl)
      have HHAS := hid (fun j : Nat => (show hasTo xs (k + 1) j = ((j : Int) == xs.getD k 0 || hasTo xs k j) from rfl))
      generalize xs.getD k 0 = X at *
      clear hc
      by_cases hX : 0 ≤ X ∧ X ≤ 255
      · have hin : inB X = true := (inB_iff X).2 hX
        obtain ⟨j, rfl⟩ := Int.eq_ofNat_of_zero_le hX.1
        have hj : j < 256 := by omega
        have hj' : (j : Int) < 256 := by omega
        have hcell : wr.cell? ⟨w.heap.size, j, none⟩ = some (.bool (hasTo xs k j)) := (harr.out.cell j).trans (hcs.out j hj)
        have hfree := harr.out.free j
        cases hS : hasTo xs k j with
        | true =>
          rw [hS] at hcell HBAD
          have HR := hid (HBAD.out (by simp))
          clear HBAD HST HHAS hS
          go_wp2_with (go_at_call 79; refine (isSym_any _ _).mono ?_; rw [hin]; rintro e w' ⟨rfl, rfl⟩)
          go_ret
          exact ⟨ret_bool HR.out.symm, hb.out⟩
        | false =>
          rw [hS] at hcell HST
          have HR := hid (show apartTo xs (k + 1) = true by rw [HST.out, hap.out, hin]; rfl)
          have HA := hid (harr.out.set j (.bool true))
          clear HBAD HST hS
          go_wp2_with (go_at_call 79; refine (isSym_any _ _).mono ?_; rw [hin]; rintro e w' ⟨rfl, rfl⟩)
          go_roundw
          case rel =>
            refine ⟨k + 1, _, by omega, by go_num, HR.out, HA.out, fun i hi => ?_, hb.out.setCell (p := ⟨w.heap.size, j, none⟩) (Nat.le_refl _) _⟩
            have hsz : j < cs.size := by
              have := hcs.out j hj
              exact (Array.getElem?_eq_some_iff.1 this).1
            rw [HHAS.out i]
            by_cases e : i = j
            · subst e
              simp [hsz]
            · rw [Array.getElem?_setIfInBounds_ne (fun h => e h.symm), hcs.out i hi]
              have : ((i : Int) == (j : Int)) = false := by simp; omega
              rw [this, Bool.false_or]
          case measure => simp [intOf]; omega
      · have hin : inB X = false := (inB_no X).2 hX
        have HR := hid (HBAD.out (by rw [hin]; rfl))
        clear HBAD HST HHAS hX
        go_wp2_with (go_at_call 79; refine (isSym_any _ _).mono ?_; rw [hin]; rintro e w' ⟨rfl, rfl⟩)
        go_ret
        exact ⟨ret_bool HR.out.symm, hb.out⟩
    · obtain rfl : k = n := by omega
      go_wp2
      go_ret
      exact ⟨ret_bool hap.out.symm, hb.out⟩

set_option maxHeartbeats 1600000 in
theorem told_any (ao : Option Addr) (n cap : Nat) (xs : List Int) (w : World) (hn : n ≤ 1048576) (hv : View .i64 w ao n xs) :
    Calls Try.prog 74 #[.slice ao n cap] w fun e w' => e = .returned (.int .i64 (toldR xs)) ∧ w' = w := by
  have HV := hid hv
  have hl := hv.1
  clear hv
  by_cases h16 : n = 16
  · subst h16
    go_enter Try.func74, Try.ntmps74
    go_wp2
    go_loop [3, 4, 12] (fun t r i => ∃ k : Nat, k ≤ 16 ∧ i = .int .i64 k ∧ t = .int .i64 (told xs k) ∧ r = .int .i64 (room xs k) ∧ Hid (okTo xs k = true)) (fun _ _ i => 16 - (intOf i).toNat)
    case atStart => exact ⟨0, by omega, rfl, rfl, rfl, rfl⟩
    case round =>
      obtain ⟨k, hk, rfl, rfl, rfl, hok⟩ := hrel
      have tb := told_bounds xs k hok.out
      have rb := room_bounds xs k hk hok.out
      by_cases hlt : k < 16
      · obtain ⟨b, off, rfl, hc⟩ := HV.out.2 k hlt
        have HT := hid (show told xs (k + 1) = told xs k + xs.getD k 0 from rfl)
        have HR := hid (show room xs (k + 1) = room xs k + xs.getD k 0 * 2 ^ (15 - k) from rfl)
        have HO := hid (show okTo xs (k + 1) = (okTo xs k && inB (xs.getD k 0)) from rfl)
        have HBAD := hid (fun h => okTo_bad xs k h 16 hlt)
        generalize told xs k = T at *
        generalize room xs k = R at *
        generalize xs.getD k 0 = X at *
        by_cases hX : 0 ≤ X ∧ X ≤ 255
        · obtain ⟨hx0, hx1⟩ := hX
          have hp := pow2_le (15 - k) (by omega)
          have hm := mul_bounds X _ hx0 hx1 hp.1 hp.2
          have hok2 := hid (show okTo xs (k + 1) = true by rw [HO.out, hok.out, (inB_iff X).2 ⟨hx0, hx1⟩]; rfl)
          clear HBAD HO
          go_wp2
          go_round
          case rel => exact ⟨k + 1, by omega, by go_num, val_int HT.out.symm, val_int HR.out.symm, hok2.out⟩
          case measure => simp [intOf]; omega
        · have hout : Hid (toldR xs = -1) := hid (toldR_no (fun h => by rw [HBAD.out ((inB_no X).2 hX)] at h; exact Bool.noConfusion h.2.1))
          clear HBAD HO HT HR
          by_cases hx0 : X < 0
          · have hd : decide (X < 0) = true := by simpa using hx0
            go_wp2
            go_ret
            exact ⟨ret_int hout.out.symm, rfl⟩
          · have hd : decide (X < 0) = false := by simpa using hx0
            have hx1 : 255 < X := by omega
            go_wp2
            go_ret
            exact ⟨ret_int hout.out.symm, rfl⟩
      · obtain rfl : k = 16 := by omega
        have HY := hid (toldR_yes (cs := xs))
        have HN := hid (toldR_no (cs := xs))
        generalize told xs 16 = T at *
        generalize room xs 16 = R at *
        by_cases h1 : T < 1
        · have hd : decide (T < 1) = true := by simpa using h1
          have hout := hid (HN.out (by omega))
          clear HY HN
          go_wp2
          go_ret
          exact ⟨ret_int hout.out.symm, rfl⟩
        · have hd : decide (T < 1) = false := by simpa using h1
          by_cases h2 : 255 < T
          · have hd2 : decide (255 < T) = true := by simpa using h2
            have hout := hid (HN.out (by omega))
            clear HY HN
            go_wp2
            go_ret
            exact ⟨ret_int hout.out.symm, rfl⟩
          · have hd2 : decide (255 < T) = false := by simpa using h2
            by_cases h3 : 65535 < R
            · have hout := hid (HN.out (by omega))
              clear HY HN
              go_wp2
              go_ret
              exact ⟨ret_int hout.out.symm, rfl⟩
            · have hout := hid (HY.out ⟨hl, hok.out, ⟨by omega, by omega⟩, by omega⟩)
              clear HY HN
              go_wp2
              go_ret
              exact ⟨ret_int hout.out.symm, rfl⟩
  · have hout := hid (toldR_no (cs := xs) (fun h => h16 (by omega)))
    have hd : ((n : Int) != 16) = true := by simp; omega
    go_enter Try.func74, Try.ntmps74
    go_wp2
    go_ret
    exact ⟨ret_int hout.out.symm, rfl⟩
end Go.Proofs.Ytnnakmgngkpghaa
