/- Contracts of CodesOk, of the program and of the specification. -/
import Derived.Test.YtnnakmgngkpghaaOkImpl
import Derived.Deep.RegionWith
import Derived.Deep.QuietTactic
import Derived.BigQuiet
namespace Go.Proofs.Ytnnakmgngkpghaa
open Go.RowKit
set_option linter.unusedVariables false

set_option maxHeartbeats 1600000 in
theorem impl_ok (v : Value) (cs ss : List Int) (w : World) (h0 : cs.length ≤ 1048576) (h1 : ss.length ≤ 1048576) (hv : CV w v cs ss) :
    Calls Try.prog 63 #[v] w fun e w' => e = .returned (.bool (rightC cs ss)) ∧ Below w.heap.size w w' := by
  obtain ⟨a0, c0, a1, c1, rfl, u0, u1⟩ := hv
  have HR := hid (show rightC cs ss = (decide (toldR cs = (ss.length : Int)) && apartTo ss ss.length) from rfl)
  obtain ⟨B0, hB0⟩ : ∃ B : Nat, B = w.heap.size := ⟨_, rfl⟩
  have HT := hid (fun (q : World) (hq : Below w.heap.size w q) => told_any a0 cs.length c0 cs q h0 (u0.below (Nat.le_refl _) hq))
  have HA := hid (fun (q : World) (hq : Below w.heap.size w q) => apart_any a1 ss.length c1 ss q h1 (u1.below (Nat.le_refl _) hq))
  have HB := hid ((Below.refl w.heap.size w).alloc (Nat.le_refl _) (.cells #[.slice a0 cs.length c0, .slice a1 ss.length c1] 33))
  generalize toldR cs = T at *
  generalize apartTo ss ss.length = F at *
  generalize rightC cs ss = R at *
  clear u0 u1
  by_cases h : T = (ss.length : Int)
  · have hd : (T == (ss.length : Int)) = true := by simpa using h
    have HRR := hid (show R = F by rw [HR.out, decide_eq_true h, Bool.true_and])
    clear h HR
    go_enter Try.func63, Try.ntmps63
    go_wp2_with fail
    go_region_with (first
      | (go_at_call 74; refine (HT.out _ ?_).mono ?_; · first | exact HB.out | exact HB.out.drew | exact belowN HB.out _
         rintro e w' ⟨rfl, rfl⟩)
      | (go_at_call 75; refine (HA.out _ ?_).mono ?_; · first | exact HB.out | exact HB.out.drew | exact belowN HB.out _
         rintro e w' ⟨rfl, hb⟩))
    all_goals
      go_wp2
      go_ret
      exact ⟨ret_bool HRR.out.symm, HB.out.drew.trans (hb.mono HB.out.size)⟩
  · have hd : (T == (ss.length : Int)) = false := by simpa using h
    have HRR := hid (show R = false by rw [HR.out, decide_eq_false h, Bool.false_and])
    clear h HR HA
    go_enter Try.func63, Try.ntmps63
    go_wp2_with fail
    go_quiet ((go_at_call 74; exact Calls.quiet_of_same (HT.out _ (belowN HB.out _))))
    go_wp2
    go_ret
    exact ⟨ret_bool HRR.out.symm, belowN HB.out _⟩

theorem in_no {x a b : Int} (h : ¬ (a ≤ x ∧ x ≤ b)) : decide (a ≤ x ∧ x ≤ b) = false := by simpa using h
theorem in_yes {x a b : Int} (h : a ≤ x ∧ x ≤ b) : decide (a ≤ x ∧ x ≤ b) = true := by simpa using h

theorem pow2_q (m : Nat) (h : m ≤ 32) (P : Int) (hP : (2 : Int) ^ m = P) (q : World) : Calls Try.prog 55 #[.int .i64 m] q fun e w' => e = .returned (.int .i64 P) ∧ w' = q := by
  subst hP
  exact (pow2_any m q h).mono fun _ _ ⟨a, b⟩ => ⟨a, b.symm⟩

set_option maxRecDepth 100000 in
set_option maxHeartbeats 6400000 in
theorem spec_ok (v : Value) (cs ss : List Int) (w : World) (h0 : cs.length ≤ 1048576) (h1 : ss.length ≤ 1048576) (hv : CV w v cs ss) :
    Calls Try.prog 44 #[v] w fun e w' => e = .returned (.bool (rightC cs ss)) ∧ Below w.heap.size w w' := by
  obtain ⟨a0, c0, a1, c1, rfl, u0, u1⟩ := hv
  have HB := hid ((Below.refl w.heap.size w).alloc (Nat.le_refl _) (.cells #[.slice a0 cs.length c0, .slice a1 ss.length c1] 33))
  have HU0 := hid (u0.below (Nat.le_refl _) HB.out)
  have HU1 := hid (u1.below (Nat.le_refl _) HB.out)
  have HT := hid (Two.new w (.slice a0 cs.length c0) (.slice a1 ss.length c1) 33)
  have HY := hid ((right_iff cs ss).2)
  have HN := hid (right_no (cs := cs) (ss := ss))
  clear u0 u1
  by_cases hl : cs.length = 16
  · have hl' : ((cs.length : Int) != 16) = false := by simp; omega
    by_cases hn : 1 ≤ (ss.length : Int) ∧ (ss.length : Int) ≤ 255
    · have hin := in_yes hn
      obtain ⟨S, hS⟩ : ∃ S : Nat, S = ss.length := ⟨_, rfl⟩
      rw [← hS] at hn hin h1 HB HU0 HU1 HT HY HN
      rw [hl] at hl' HB HU0 HU1 HT HY HN
      rw [hl, ← hS]
      clear hS
      go_enter Try.func44, Try.ntmps44
      go_wp2_with (go_at_call 36; refine (spec_in _ _ _ _).mono ?_; rw [hin]; rintro e w' ⟨rfl, rfl⟩)
      generalize w.alloc (.cells #[.slice a0 16 c0, .slice a1 S c1] 33) = wa at *
      obtain ⟨q1, q2, q3, q4⟩ := HT.out.cells
      clear hin hl'
      go_loopw [3, 4, 5] (fun s t i wr => ∃ k : Nat, k ≤ 16 ∧ i = .int .i64 k ∧ s = .int .i64 (room cs k) ∧ t = .int .i64 (told cs k) ∧ Hid (okTo cs k = true) ∧ ∃ q, wr = wa.drewN q) (fun _ _ i _ => 16 - (intOf i).toNat)
      case atStart => exact ⟨0, by omega, rfl, rfl, rfl, rfl, 0, rfl⟩
      case round =>
        obtain ⟨k, hk, rfl, rfl, rfl, hok, q, rfl⟩ := hrel
        have tb := told_bounds cs k hok.out
        have rb := room_bounds cs k hk hok.out
        by_cases hlt : k < 16
        · obtain ⟨b, off, rfl, hc⟩ := HU0.out.2 k hlt
          obtain ⟨m, hm⟩ : ∃ m : Nat, m = 15 - k := ⟨_, rfl⟩
          have hm15 : (15 : Int) - (k : Int) = (m : Int) := by omega
          have hm9 : (m : Int) ≤ 15 := by omega
          have hmw : IntKind.i64.wrap (m : Int) = (m : Int) := by rw [IntKind.wrap_i64]; omega
          have hT := hid (show told cs (k + 1) = told cs k + cs.getD k 0 from rfl)
          have hR := hid (show room cs (k + 1) = room cs k + cs.getD k 0 * 2 ^ (15 - k) from rfl)
          have hO := hid (show okTo cs (k + 1) = (okTo cs k && inB (cs.getD k 0)) from rfl)
          have HBAD := hid (fun h => okTo_bad cs k h 16 hlt)
          rw [← hm] at hR
          have hp := pow2_le m (by omega)
          generalize told cs k = T at *
          generalize room cs k = R at *
          generalize cs.getD k 0 = X at *
          generalize hPP : (2 : Int) ^ m = P at *
          have HP := hid (pow2_q m (by omega) P hPP)
          have hlt' : (k : Int) < 16 := by omega
          clear hPP hm
          by_cases hX : 0 ≤ X ∧ X ≤ 255
          · have hin := in_yes hX
            obtain ⟨hx0, hx1⟩ := hX
            have hm2 := mul_bounds X P hx0 hx1 hp.1 hp.2
            have hok2 := hid (show okTo cs (k + 1) = true by rw [hO.out, hok.out, (inB_iff X).2 ⟨hx0, hx1⟩]; rfl)
            clear HBAD hO
            go_wp2_with (go_at_call 36; refine (spec_in _ _ _ _).mono ?_; rw [hin]; rintro e w' ⟨rfl, rfl⟩)
            go_quiet ((go_at_call 55; exact (HP.out _).mono fun _ _ ⟨a, b⟩ => ⟨a, _, b⟩))
            go_wp2
            go_roundw
            case rel => exact ⟨k + 1, by omega, by go_num, val_int hR.out.symm, val_int hT.out.symm, hok2.out, _, rfl⟩
            case measure => simp [intOf]; omega
          · have hin := in_no hX
            have hout := hid (HN.out (fun h => by rw [HBAD.out ((inB_no X).2 hX)] at h; exact Bool.noConfusion h.1.2.1))
            clear HBAD hO hX
            go_wp2_with (go_at_call 36; refine (spec_in _ _ _ _).mono ?_; rw [hin]; rintro e w' ⟨rfl, rfl⟩)
            go_ret
            exact ⟨ret_bool hout.out.symm, belowN HB.out _⟩
        · obtain rfl : k = 16 := by omega
          generalize hTT : told cs 16 = T at *
          generalize hRR : room cs 16 = R at *
          have HTT := hid hTT
          have HRR := hid hRR
          clear hTT hRR
          by_cases hTS : T = (S : Int)
          · subst hTS
            by_cases hRb : 65535 < R
            · have hout := hid (HN.out (fun h => by have := h.1.2.2.2; omega))
              clear HY HN
              go_wp2
              go_ret
              exact ⟨ret_bool hout.out.symm, belowN HB.out _⟩
            · have HY2 := hid (fun h => HY.out ⟨⟨by trivial, hok.out, ⟨by omega, by omega⟩, by omega⟩, by trivial, h⟩)
              have HN2 := hid (fun h : apartTo ss S = false => HN.out (fun h2 => by rw [h] at h2; exact Bool.noConfusion h2.2.2))
              clear HY HN
              go_wp2
              go_loopw [6] (fun i wr => ∃ k : Nat, k ≤ S ∧ i = .int .i64 k ∧ Hid (apartTo ss k = true) ∧ ∃ q, wr = wa.drewN q) (fun i _ => S - (intOf i).toNat)
              case atStart => exact ⟨0, by omega, rfl, rfl, _, rfl⟩
              case round =>
                obtain ⟨i, hi, rfl, hap, q, rfl⟩ := hrel
                by_cases hlt : i < S
                · obtain ⟨b, off, rfl, hc⟩ := HU1.out.2 i hlt
                  have hlt' : (i : Int) < (S : Int) := by omega
                  have HBAD := hid (fun h => apartTo_bad ss i h S hlt)
                  have HST := hid (show apartTo ss (i + 1) = (apartTo ss i && (inB (ss.getD i 0) && !hasTo ss i (ss.getD i 0))) from rfl)
                  generalize hXX : ss.getD i 0 = X at *
                  clear hXX
                  by_cases hX : 0 ≤ X ∧ X ≤ 255
                  · have hin := in_yes hX
                    have hinB := hid ((inB_iff X).2 hX)
                    clear hX
                    go_wp2_with (go_at_call 36; refine (spec_in _ _ _ _).mono ?_; rw [hin]; rintro e w' ⟨rfl, rfl⟩)
                    go_loopw [7] (fun j wr => ∃ k : Nat, k ≤ i ∧ j = .int .i64 k ∧ Hid (hasTo ss k X = false) ∧ ∃ q, wr = wa.drewN q) (fun j _ => i - (intOf j).toNat)
                    case atStart => exact ⟨0, by omega, rfl, rfl, _, rfl⟩
                    case round =>
                      obtain ⟨k, hk, rfl, hha, q', rfl⟩ := hrel
                      by_cases hki : k < i
                      · obtain ⟨b2, off2, hb2, hc2⟩ := HU1.out.2 k (by omega)
                        obtain ⟨rfl, rfl⟩ : b2 = b ∧ off2 = off := by cases hb2; exact ⟨rfl, rfl⟩
                        have hki' : (k : Int) < (i : Int) := by omega
                        have hkS : (k : Int) < (S : Int) := by omega
                        have HH := hid (show hasTo ss (k + 1) X = (X == ss.getD k 0 || hasTo ss k X) from rfl)
                        have HE := hid (fun h : ss.getD k 0 = X => (hasTo_iff ss X i).2 ⟨k, hki, h⟩)
                        generalize ss.getD k 0 = Y at *
                        by_cases hYX : Y = X
                        · have hd : (Y == X) = true := by simpa using hYX
                          have hout := hid (HN2.out (HBAD.out (by rw [HE.out hYX, hinB.out]; rfl)))
                          clear HBAD HST HH HE hYX
                          go_wp2
                          go_quiet (fail)
                          go_wp2
                          go_ret
                          exact ⟨ret_bool hout.out.symm, belowN (belowN HB.out _) _⟩
                        · have hd : (Y == X) = false := by simpa using hYX
                          have hnext := hid (show hasTo ss (k + 1) X = false by rw [HH.out, hha.out, Bool.or_false]; simp; exact fun e => hYX e.symm)
                          clear HBAD HH HE hYX
                          go_wp2
                          go_quiet (fail)
                          go_wp2
                          go_roundw
                          case rel => exact ⟨k + 1, by omega, by go_num, hnext.out, _, rfl⟩
                          case measure => simp [intOf]; omega
                      · obtain rfl : k = i := by omega
                        have hnext := hid (show apartTo ss (k + 1) = true by rw [HST.out, hap.out, hinB.out, hha.out]; rfl)
                        clear HBAD HST
                        go_wp2
                        go_roundw
                        case rel => exact ⟨k + 1, by omega, by go_num, hnext.out, _, rfl⟩
                        case measure => simp [intOf]; omega
                  · have hin := in_no hX
                    have hout := hid (HN2.out (HBAD.out (by rw [(inB_no X).2 hX]; rfl)))
                    clear HBAD HST hX
                    go_wp2_with (go_at_call 36; refine (spec_in _ _ _ _).mono ?_; rw [hin]; rintro e w' ⟨rfl, rfl⟩)
                    go_ret
                    exact ⟨ret_bool hout.out.symm, belowN HB.out _⟩
                · obtain rfl : i = S := by omega
                  have hout := hid (HY2.out hap.out)
                  clear HY2 HN2
                  go_wp2
                  go_ret
                  exact ⟨ret_bool hout.out.symm, belowN HB.out _⟩
          · have hout := hid (HN.out (fun h => hTS h.2.1))
            have hd : (T != (S : Int)) = true := by simpa using hTS
            clear HY HN hTS
            go_wp2
            go_ret
            exact ⟨ret_bool hout.out.symm, belowN HB.out _⟩
    · have hin := in_no hn
      have hout := hid (HN.out (fun h => hn (by have := h.1.2.2.1; have := h.2.1; omega)))
      clear HY HN hn
      rw [hl] at HB
      go_enter Try.func44, Try.ntmps44
      go_wp2_with (go_at_call 36; refine (spec_in _ _ _ _).mono ?_; rw [hin]; rintro e w' ⟨rfl, rfl⟩)
      go_ret
      exact ⟨ret_bool hout.out.symm, HB.out⟩
  · have hl' : ((cs.length : Int) != 16) = true := by simp; omega
    have hout := hid (HN.out (fun h => hl h.1.1))
    clear HY HN
    go_enter Try.func44, Try.ntmps44
    go_wp2
    go_ret
    exact ⟨ret_bool hout.out.symm, HB.out⟩
end Go.Proofs.Ytnnakmgngkpghaa
