/- The contract of l03Ac of the specification. -/
import Derived.Test.YtcikmgdfelejpaaJGe
namespace Go.Proofs.Ytcikmgdfelejpaa
open Go.RowKit
set_option linter.unusedVariables false

theorem acStep_full {o : List Int} {s : Int × Int × List Int} (h : 64 ≤ o.length) : acStep o s = o := by unfold acStep; rw [if_pos h]
theorem acStep_yes {o : List Int} {r n : Int} {bits : List Int} (h : o.length < 64) (hg : GoodRest n bits) (hc : 0 < n ∨ r = 15) : acStep o (r, n, bits) = o ++ List.replicate (min r.toNat (64 - o.length)) 0 ++ [frv bits] := by
  unfold acStep; rw [if_neg (by omega), if_pos ⟨hg, hc⟩]
theorem acStep_no {o : List Int} {r n : Int} {bits : List Int} (h : o.length < 64) (hc : ¬ (GoodRest n bits ∧ (0 < n ∨ r = 15))) : acStep o (r, n, bits) = o ++ List.replicate (min r.toNat (64 - o.length)) 0 := by
  unfold acStep; rw [if_neg (by omega), if_neg hc]
theorem acTo_stop (L : List (Int × Int × List Int)) (k : Nat) (h : 64 ≤ (acTo L k).length) : ∀ n, k ≤ n → acTo L n = acTo L k
  | 0, hn => by have : k = 0 := by omega
                rw [this]
  | n + 1, hn => by
    by_cases e : k = n + 1
    · rw [e]
    · have ih := acTo_stop L k h n (by omega)
      rw [acTo, ih, acStep_full h]
theorem acStep_len (o : List Int) (s : Int × Int × List Int) (h : o.length ≤ 65) : (acStep o s).length ≤ 65 := by
  unfold acStep
  split
  · exact h
  · split
    · simp only [List.length_append, List.length_replicate, List.length_singleton]; omega
    · simp only [List.length_append, List.length_replicate]; omega
theorem acTo_len (L : List (Int × Int × List Int)) : ∀ k, (acTo L k).length ≤ 65
  | 0 => by simp [acTo]
  | k + 1 => acStep_len _ _ (acTo_len L k)
theorem zeros_next (o : List Int) (j : Nat) : o ++ List.replicate (j + 1) (0 : Int) = (o ++ List.replicate j 0) ++ [0] := by rw [List.replicate_succ', List.append_assoc]

set_option maxRecDepth 100000 in
set_option maxHeartbeats 3200000 in
theorem spec_ac (ao : Option Addr) (cap : Nat) (L : List (Int × Int × List Int)) (w : World) (hn : L.length ≤ 1048576) (hs : ∀ j, j < L.length → (nthS L j).2.2.length ≤ 1048576) (hv : SRow w ao L) :
    Calls Try.prog 99 #[.slice ao L.length cap] w fun e w' => ∃ v, e = .returned v ∧ Own w' w.heap.size 3 .i64 v (acOf L) ∧ Below w.heap.size w w' := by
  have HV := hid hv
  have HS := hid hs
  have HO := hid (Own.empty w 3 .i64 w.heap.size (Nat.le_refl _))
  have HB := hid ((Below.refl w.heap.size w).alloc (Nat.le_refl _) (.cells #[] 3))
  clear hv hs
  go_enter Try.func99, Try.ntmps99
  go_wp2_with fail
  generalize w.alloc (.cells #[] 3) = wa at *
  go_loopw [3, 4] (fun s i wr => ∃ k : Nat, k ≤ L.length ∧ i = .int .i64 k ∧ Hid (Own wr w.heap.size 3 .i64 s (acTo L k)) ∧ Hid (Below w.heap.size w wr)) (fun _ i _ => L.length - (intOf i).toNat)
  case atStart => exact ⟨0, by omega, rfl, HO.out, HB.out⟩
  case round =>
    obtain ⟨k, hk, rfl, hown, hb⟩ := hrel
    have hal := acTo_len L k
    obtain ⟨so, sc, hsv⟩ := hown.out.shape
    subst hsv
    by_cases hgo : k < L.length ∧ (acTo L k).length < 64
    · obtain ⟨hlt, h64⟩ := hgo
      have hlt' : (k : Int) < (L.length : Int) := by omega
      have h64' : ((acTo L k).length : Int) < 64 := by omega
      obtain ⟨b, off, a, c, rfl, hc1, hc2, hc3, hvw⟩ := HV.out.below hb.out k hlt
      have hbl := HS.out k hlt
      have HNX := hid (show acTo L (k + 1) = acStep (acTo L k) (nthS L k) from rfl)
      have HVQ := hid (fun q (hq : Below w.heap.size w q) => HV.out.below hq k hlt)
      generalize acTo L k = o at *
      generalize nthS L k = st at *
      obtain ⟨r, n, bits⟩ := st
      simp only at hc1 hc2 hc3 hvw hbl HVQ
      have hwr : w.heap.size ≤ wr.heap.size := hb.out.size
      go_wp2_with fail
      go_loopw [3, 5] (fun s i wq => ∃ j : Nat, j ≤ min r.toNat (64 - o.length) ∧ i = .int .i64 j ∧ Hid (Own wq w.heap.size 3 .i64 s (o ++ List.replicate j 0)) ∧ Hid (Below w.heap.size w wq)) (fun _ i _ => 64 - (intOf i).toNat)
      case atStart => exact ⟨0, by omega, rfl, by show Own _ _ _ _ _ _; simpa using hown.out, hb.out⟩
      case round =>
        obtain ⟨j, hj, rfl, hownq, hbq⟩ := hrel
        obtain ⟨b', off', a', c', e', d1, d2, d3, dvw⟩ := HVQ.out _ hbq.out
        obtain ⟨rfl, rfl⟩ : b = b' ∧ off = off' := by cases e'; exact ⟨rfl, rfl⟩
        clear e'
        obtain ⟨so2, sc2, hsv2⟩ := hownq.out.shape
        have hN : (o ++ List.replicate j (0 : Int)).length = o.length + j := by simp
        rw [hN] at hsv2
        clear hN
        generalize hN : o.length + j = N at *
        have HN := hid hN
        have HE := hid (zeros_next o j)
        subst hsv2
        by_cases hmore : (j : Int) < r ∧ N < 64
        · obtain ⟨h1, h2⟩ := hmore
          have h2' : (N : Int) < 64 := by omega
          have hj2 : j + 1 ≤ min r.toNat (64 - o.length) := by omega
          have hL : (o ++ List.replicate j (0 : Int)).length < 1000000 := by simp; omega
          clear hN hj
          generalize o ++ List.replicate j (0 : Int) = T at *
          go_wp2_with (at_builtin; refine wpList_push _ rfl _ _ 22 rfl w.heap.size 3 .i64 0 8 Try.underlying22 Try.info3 _ T rfl hownq.out 0 rfl (by omega) (by decide) ?_)
          intro v9 w9 ho9 hb9
          have HO9 := hid ho9
          have HB9 := hid (hbq.out.trans hb9)
          clear ho9 hb9
          go_wp2_with fail
          go_roundw
          case rel => exact ⟨j + 1, hj2, by go_num, by rw [HE.out]; exact HO9.out, HB9.out⟩
          case measure => simp [intOf]; omega
        · have hex : ¬ (j : Int) < r ∨ ((j : Int) < r ∧ ¬ (N : Int) < 64) := by omega
          have hjm : j = min r.toNat (64 - o.length) := by omega
          have HYES := hid (fun hg hc => acStep_yes (o := o) (r := r) (n := n) (bits := bits) h64 hg hc)
          have HNOT := hid (fun hc => acStep_no (o := o) (r := r) (n := n) (bits := bits) h64 hc)
          rw [← hjm] at HYES HNOT
          have hL : (o ++ List.replicate j (0 : Int)).length < 1000000 := by simp; omega
          have HVW := hid dvw
          clear hjm hmore hN hj HE
          generalize o ++ List.replicate j (0 : Int) = T at *
          by_cases hg : GoodRest n bits
          · have hnl : n = (bits.length : Int) := hg.2.1.symm
            have h11 := hg.1
            have HSF := hid (fun q (hq : Below wr.heap.size wr q) => spec_from a' c' bits q (by omega) (HVW.out.below (Nat.le_refl _) hq) hg.2.2)
            rw [← hnl] at HSF
            by_cases hc : 0 < n ∨ r = 15
            · have HNX2 := hid (HNX.out.trans (HYES.out hg hc))
              generalize frv bits = X at *
              clear hnl hg HYES HNOT HNX
              have hc2 : 0 < n ∨ (¬ 0 < n ∧ (r == 15) = true) := by
                by_cases h : 0 < n
                · exact .inl h
                · exact .inr ⟨h, by simpa using hc.resolve_left h⟩
              clear hc
              rcases hex with h1 | ⟨h1, h2⟩ <;> rcases hc2 with h3 | ⟨h3, h4⟩
              all_goals
                go_wp2_with fail
                go_quiet ((go_at_call 98; exact (HSF.out _ (belowN (Below.refl _ _) _)).mono (fun _ _ h => ⟨h.1, _, h.2.symm⟩)))
                go_wp2_with (at_builtin; refine wpList_push _ rfl _ _ 22 rfl w.heap.size 3 .i64 0 8 Try.underlying22 Try.info3 _ T rfl (hownq.out.drew _) X rfl (by omega) (by decide) ?_)
                intro v9 w9 ho9 hb9
                have HO9 := hid ho9
                have HB9 := hid ((belowN hbq.out nq).trans hb9)
                clear ho9 hb9
                go_wp2_with fail
                go_roundw
                case rel => exact ⟨k + 1, by omega, by go_num, by rw [HNX2.out]; exact HO9.out, HB9.out⟩
                case measure => simp [intOf]; omega
            · have HNX2 := hid (HNX.out.trans (HNOT.out (fun h => hc h.2)))
              have h3 : ¬ 0 < n := fun h => hc (.inl h)
              have h4 : (r == 15) = false := by simpa using (fun h => hc (.inr h))
              generalize frv bits = X at *
              clear hnl hg HYES HNOT HNX hc
              rcases hex with h1 | ⟨h1, h2⟩
              all_goals
                go_wp2_with fail
                go_quiet ((go_at_call 98; exact (HSF.out _ (belowN (Below.refl _ _) _)).mono (fun _ _ h => ⟨h.1, _, h.2.symm⟩)))
                have HB9 := hid (belowN hbq.out nq)
                have HO9 := hid (hownq.out.drew nq)
                go_wp2_with fail
                go_roundw
                case rel => exact ⟨k + 1, by omega, by go_num, by rw [HNX2.out]; exact HO9.out, HB9.out⟩
                case measure => simp [intOf]; omega
          · have HNX2 := hid (HNX.out.trans (HNOT.out (fun h => hg h.1)))
            have HSF := hid (fun q (hq : Below wr.heap.size wr q) => spec_from_no a' c' n bits q hbl (HVW.out.below (Nat.le_refl _) hq) hg)
            clear hg HYES HNOT HNX
            rcases hex with h1 | ⟨h1, h2⟩
            all_goals
              go_wp2_with fail
              go_quiet ((go_at_call 98; exact (HSF.out _ (belowN (Below.refl _ _) _)).mono (fun _ _ h => ⟨h.1, _, h.2.symm⟩)))
              have HB9 := hid (belowN hbq.out nq)
              have HO9 := hid (hownq.out.drew nq)
              go_wp2_with fail
              go_roundw
              case rel => exact ⟨k + 1, by omega, by go_num, by rw [HNX2.out]; exact HO9.out, HB9.out⟩
              case measure => simp [intOf]; omega
    · have hex : ¬ (k : Int) < (L.length : Int) ∨ ((k : Int) < (L.length : Int) ∧ ¬ ((acTo L k).length : Int) < 64) := by omega
      have HEND := hid (show acOf L = acTo L k ++ List.replicate (63 - (acTo L k).length) 0 by
        unfold acOf
        by_cases e : k = L.length
        · rw [← e]
        · rw [acTo_stop L k (by omega) L.length (by omega)])
      clear hgo
      generalize acTo L k = o at *
      rcases hex with h1 | ⟨h1, h2⟩
      all_goals
        go_wp2_with fail
        go_loopw [3] (fun s wq => ∃ j N : Nat, j ≤ 63 - o.length ∧ Hid (o.length + j = N) ∧ Hid (Own wq w.heap.size 3 .i64 s (o ++ List.replicate j 0)) ∧ Hid (Below w.heap.size w wq) ∧ ∃ ao c, s = .slice ao N c) (fun s _ => match s with | .slice _ n _ => 64 - n | _ => 0)
        case atStart => exact ⟨0, o.length, by omega, rfl, by show Own _ _ _ _ _ _; simpa using hown.out, hb.out, _, _, rfl⟩
        case round =>
          obtain ⟨j, N, hj, hjN, hownq, hbq, so2, sc2, rfl⟩ := hrel
          have HE := hid (zeros_next o j)
          by_cases hmore : N < 63
          · try (exfalso; have := hjN.out; omega)
            all_goals
              have h5 : (N : Int) < 63 := by omega
              have hj1 : j + 1 ≤ 63 - o.length := by have := hjN.out; omega
              have hL : (o ++ List.replicate j (0 : Int)).length < 1000000 := by simp; omega
              have HLN := hid (show (o ++ List.replicate j (0 : Int)).length = N by simp; exact hjN.out)
              have HJ1 := hid (show o.length + (j + 1) = N + 1 by have := hjN.out; omega)
              generalize o ++ List.replicate j (0 : Int) = T at *
              go_wp2_with (at_builtin; refine wpList_push _ rfl _ _ 22 rfl w.heap.size 3 .i64 0 8 Try.underlying22 Try.info3 _ T rfl hownq.out 0 rfl (by omega) (by decide) ?_)
              intro v9 w9 ho9 hb9
              obtain ⟨s9, c9, hv9⟩ := ho9.shape
              rw [List.length_append, List.length_singleton, HLN.out] at hv9
              have HO9 := hid ho9
              have HB9 := hid (hbq.out.trans hb9)
              clear ho9 hb9
              subst hv9
              go_wp2_with fail
              go_roundw
              case rel => exact ⟨j + 1, N + 1, hj1, HJ1.out, by rw [HE.out]; exact HO9.out, HB9.out, _, _, rfl⟩
              case measure => simp; omega
          · have h5 : ¬ (N : Int) < 63 := by omega
            have hjj : j = 63 - o.length := by have := hjN.out; omega
            subst hjj
            go_wp2_with fail
            go_ret
            exact ⟨_, rfl, by rw [HEND.out]; exact hownq.out, hbq.out⟩
end Go.Proofs.Ytcikmgdfelejpaa
