/- The contract of Steps of the program. -/
import Derived.Test.YtnnakmgngkpghaaStp
namespace Go.Proofs.Ytnnakmgngkpghaa
open Go.RowKit
set_option linter.unusedVariables false

theorem skips_next (S : List (Int × Int × List Int)) (i : Nat) : S ++ List.replicate (i + 1) skip = (S ++ List.replicate i skip) ++ [skip] := by
  rw [List.replicate_succ', List.append_assoc]

set_option maxRecDepth 100000 in
set_option maxHeartbeats 6400000 in
theorem impl_steps (v : Value) (d : Int) (xs : List Int) (w : World) (hl : xs.length ≤ 1048576) (hv : BV w v d xs) :
    Calls Try.prog 68 #[v] w fun e w' => ∃ v', e = .returned v' ∧ (∃ vs, OwnT w' w.heap.size v' (stepsR d xs) vs) ∧ Below w.heap.size w w' := by
  obtain ⟨a0, c0, rfl, u0⟩ := hv
  have HB0 := hid ((Below.refl w.heap.size w).alloc (Nat.le_refl _) (.cells #[.int .i64 d, .slice a0 xs.length c0] 49))
  have HB := hid (HB0.out.alloc (show w.heap.size ≤ (w.alloc (.cells #[.int .i64 d, .slice a0 xs.length c0] 49)).heap.size by simp) (.cells #[] 85))
  have HT := hid ((Two.new w (.int .i64 d) (.slice a0 xs.length c0) 49).alloc (.cells #[] 85))
  have HO := hid (OwnT.empty (w.alloc (.cells #[.int .i64 d, .slice a0 xs.length c0] 49)) w.heap.size (by simp))
  have HU := hid u0
  have HBO := hid (impl_blockOk (.agg #[.int .i64 d, .slice a0 xs.length c0]) d xs _ hl ⟨a0, c0, rfl, u0.below (Nat.le_refl _) HB.out⟩)
  simp only [World.size_alloc] at HO
  clear u0 HB0
  by_cases hok : blkOk d xs = true
  · have HR := hid (show stepsR d xs = stepsOf xs by unfold stepsR; rw [if_pos hok])
    have h63 : xs.length = 63 := by
      unfold blkOk at hok
      simp only [Bool.and_eq_true, decide_eq_true_eq] at hok
      exact hok.2.1
    have HIN := hid (fun k (hk : k < 63) => (show -1023 ≤ xs.getD k 0 ∧ xs.getD k 0 ≤ 1023 by
      unfold blkOk at hok
      simp only [Bool.and_eq_true, decide_eq_true_eq] at hok
      simpa [inC] using coefTo_at xs 63 hok.2.2 k hk))
    rw [hok] at HBO
    rw [h63] at HU HT HO HB HBO ⊢
    clear hok h63 hl
    go_enter Try.func68, Try.ntmps68
    go_wp2_with fail
    refine HBO.out.mono ?_
    generalize (w.alloc (.cells #[.int .i64 d, .slice a0 63 c0] 49)).alloc (.cells #[] 85) = wa at *
    rintro e w1 ⟨rfl, hb1⟩
    have B1 := hid (HB.out.trans (hb1.mono HB.out.size))
    have T1 := hid (HT.out.below hb1 HT.out.lt)
    have O1 := hid (HO.out.below hb1)
    clear hb1 HBO HO HT HB
    obtain ⟨q1, q2, q3, q4⟩ := T1.out.cells
    go_wp2_with fail
    clear q1 q2 q3 q4
    go_loopw [3, 4, 15] (fun s r i wr => ∃ (k : Nat) (vs : List Value), k ≤ 63 ∧ i = .int .i64 k ∧ r = .int .i64 ((stepTo xs k).2 : Nat) ∧ Hid (OwnT wr w.heap.size s (stepTo xs k).1 vs) ∧ Hid (Below w.heap.size w wr)) (fun _ _ i _ => 63 - (intOf i).toNat)
    case atStart => exact ⟨0, [], by omega, rfl, rfl, O1.out, B1.out⟩
    case round =>
      obtain ⟨k, vs, hk, rfl, rfl, hown, hb⟩ := hrel
      have hlen := stepTo_len xs k
      by_cases hlt : k < 63
      · obtain ⟨b, off, rfl, hc⟩ := (HU.out.below (Nat.le_refl _) hb.out).2 k hlt
        have hlt' : (k : Int) < 63 := by omega
        have hin := HIN.out k hlt
        have HZ := hid (stepTo_zero xs k)
        have HNM := hid (stepTo_num xs k)
        have HSZ := hid (fun q => impl_size (xs.getD k 0) q (by omega) (by omega))
        have HRS := hid (fun q => impl_rest (xs.getD k 0) q (by omega) (by omega))
        generalize (stepTo xs k).1 = S at *
        generalize (stepTo xs k).2 = r at *
        generalize hX : xs.getD k 0 = X at *
        by_cases hX0 : X = 0
        · have hd : (X == 0) = true := by simpa using hX0
          have HZ2 := hid (HZ.out hX0)
          clear HZ HNM HSZ HRS hX hX0
          go_wp2_with fail
          go_roundw
          case rel => exact ⟨k + 1, vs, by omega, by go_num, val_int (by rw [HZ2.out]; show _ = ((r + 1 : Nat) : Int); omega), by rw [HZ2.out]; exact hown.out, hb.out⟩
          case measure => simp [intOf]; omega
        · have hd : (X == 0) = false := by simpa using hX0
          have HN2 := hid (HNM.out hX0)
          clear HZ HNM hX hX0
          go_wp2_with fail
          go_loopw [3, 4] (fun s q wq => ∃ (i y : Nat) (us : List Value), i ≤ r / 16 ∧ q = .int .i64 (y : Nat) ∧ Hid (y + 16 * i = r) ∧ y ≤ 63 ∧ Hid (OwnT wq w.heap.size s (S ++ List.replicate i skip) us) ∧ Hid (Below w.heap.size w wq)) (fun _ q _ => (intOf q).toNat)
          case atStart => exact ⟨0, r, vs, by omega, rfl, rfl, by omega, by show OwnT _ _ _ _ _; simpa using hown.out, hb.out⟩
          case round =>
            obtain ⟨i, y, us, hi, rfl, hy, hy63, hownq, hbq⟩ := hrel
            obtain ⟨so, sc', hsv⟩ := hownq.out.shape
            have hSl : (S ++ List.replicate i skip).length < 1000000000 := by simp only [List.length_append, List.length_replicate]; omega
            by_cases hgt : 15 < y
            · have hgt' : (15 : Int) < (y : Int) := by omega
              have hA := (Below.refl wr.heap.size wr).alloc (Nat.le_refl _) (.cells #[] 3)
              have HOA := hid (hownq.out.below hA)
              have HYA := hid (Own.empty wr 3 .i64 w.heap.size hbq.out.size)
              have HYB := hid (show ∀ j, j < (S ++ List.replicate i skip).length → ∀ (a a' : Addr) (n n' c c' : Nat), us.getD j (.bool false) = .slice (some a) n c → Value.slice (some ⟨wr.heap.size, 0, none⟩) 0 0 = .slice (some a') n' c' → a.block < a'.block from fun j hj a a' n n' c c' e1 e2 => by
                have := hownq.out.lt j hj a n c e1
                cases e2
                exact this)
              have HBA := hid (hbq.out.trans (hA.mono hbq.out.size))
              have hy16 : y - 16 + 16 * (i + 1) = r := by have := hy.out; omega
              have HY16 := hid hy16
              have hi2 : i + 1 ≤ r / 16 := by omega
              subst hsv
              clear hA hy16
              generalize hT : S ++ List.replicate i skip = T at *
              have HT2 := hid hT
              clear hT
              go_wp2_with (at_builtin; refine wpList_pushS (wr.alloc (.cells #[] 3)) (wr.heap.size + 1) (by simp) rfl _ _ 82 rfl w.heap.size Try.underlying82 Try.info85 _ T us (by rfl) HOA.out 15 0 (some ⟨wr.heap.size, 0, none⟩) 0 0 [] HYA.out HYB.out (by rfl) hSl ?_)
              intro v9 w9 ho9 hb9
              have HO9 := hid ho9
              have HB9 := hid (HBA.out.trans hb9)
              clear ho9 hb9
              go_wp2_with fail
              go_roundw
              case rel => exact ⟨i + 1, y - 16, _, hi2, val_int (by omega), HY16.out, by omega, by rw [skips_next, HT2.out]; exact HO9.out, HB9.out⟩
              case measure => simp [intOf]; omega
            · have hgt' : ¬ (15 : Int) < (y : Int) := by omega
              have hir : i = r / 16 := by have := hy.out; omega
              have hyr : y = r % 16 := by have := hy.out; omega
              subst hir
              subst hyr
              have HSZ2 := hid (HSZ.out wr)
              have HRS2 := hid (HRS.out wr)
              have HOLD := hid (fun j hj a n c e1 => hownq.out.lt j hj a n c e1)
              have hwr := hbq.out.size
              subst hsv
              generalize hT : S ++ List.replicate (r / 16) skip = T at *
              have HT2 := hid hT
              clear hT hgt hi
              generalize sz X = ZX at *
              generalize restL X = RX at *
              go_wp2_with fail
              refine HSZ2.out.mono ?_
              rintro e w5 ⟨rfl, rfl⟩
              go_wp2_with fail
              refine HRS2.out.mono ?_
              rintro e w6 ⟨v6, rfl, ho6, hb6⟩
              obtain ⟨ya, yc, hyv⟩ := ho6.shape
              subst hyv
              have HO6 := hid (hownq.out.below hb6)
              have HY6 := hid (ho6.mono hwr)
              have HYB := hid (show ∀ j, j < T.length → ∀ (a a' : Addr) (n n' c c' : Nat), us.getD j (.bool false) = .slice (some a) n c → Value.slice ya RX.length yc = .slice (some a') n' c' → a.block < a'.block from fun j hj a a' n n' c c' e1 e2 => by
                have h1 := HOLD.out j hj a n c e1
                cases e2
                have h2 := ho6.ge.1
                omega)
              have HB6 := hid (hbq.out.trans (hb6.mono hbq.out.size))
              clear ho6 hb6
              go_wp2_with (at_builtin; refine wpList_pushS w6 w6.heap.size rfl rfl _ _ 82 rfl w.heap.size Try.underlying82 Try.info85 _ T us (by rfl) HO6.out _ ZX ya RX.length yc RX HY6.out HYB.out (by rfl) hSl ?_)
              intro v9 w9 ho9 hb9
              have HO9 := hid ho9
              have HB9 := hid (HB6.out.trans hb9)
              clear ho9 hb9
              go_wp2_with fail
              go_roundw
              case rel => exact ⟨k + 1, _, by omega, by go_num, val_int (by rw [HN2.out]; rfl), by rw [HN2.out]; exact HO9.out, HB9.out⟩
              case measure => simp [intOf]; omega
      · obtain rfl : k = 63 := by omega
        have HST := hid (show stepsOf xs = if 0 < (stepTo xs 63).2 then (stepTo xs 63).1 ++ [(0, 0, [])] else (stepTo xs 63).1 from rfl)
        generalize (stepTo xs 63).1 = S at *
        generalize (stepTo xs 63).2 = r at *
        have hSl : S.length < 1000000000 := by omega
        obtain ⟨so, sc', hsv⟩ := hown.out.shape
        by_cases hr0 : 0 < r
        · have hr0' : (0 : Int) < (r : Int) := by omega
          rw [if_pos hr0] at HST
          have hA := (Below.refl wr.heap.size wr).alloc (Nat.le_refl _) (.cells #[] 3)
          have HOA := hid (hown.out.below hA)
          have HYA := hid (Own.empty wr 3 .i64 w.heap.size hb.out.size)
          have HYB := hid (show ∀ j, j < S.length → ∀ (a a' : Addr) (n n' c c' : Nat), vs.getD j (.bool false) = .slice (some a) n c → Value.slice (some ⟨wr.heap.size, 0, none⟩) 0 0 = .slice (some a') n' c' → a.block < a'.block from fun j hj a a' n n' c c' e1 e2 => by
            have := hown.out.lt j hj a n c e1
            cases e2
            exact this)
          have HBA := hid (hb.out.trans (hA.mono hb.out.size))
          subst hsv
          clear hA
          go_wp2_with (at_builtin; refine wpList_pushS (wr.alloc (.cells #[] 3)) (wr.heap.size + 1) (by simp) rfl _ _ 82 rfl w.heap.size Try.underlying82 Try.info85 _ S vs (by rfl) HOA.out 0 0 (some ⟨wr.heap.size, 0, none⟩) 0 0 [] HYA.out HYB.out (by rfl) hSl ?_)
          intro v9 w9 ho9 hb9
          obtain ⟨s9, c9, hv9⟩ := ho9.shape
          have HO9 := hid ho9
          have HB9 := hid (HBA.out.trans hb9)
          subst hv9
          clear ho9 hb9
          go_wp2_with fail
          go_ret
          exact ⟨_, rfl, ⟨_, by rw [HR.out, HST.out]; exact HO9.out⟩, HB9.out⟩
        · have hr0' : ¬ (0 : Int) < (r : Int) := by omega
          rw [if_neg hr0] at HST
          subst hsv
          go_wp2_with fail
          go_ret
          exact ⟨_, rfl, ⟨_, by rw [HR.out, HST.out]; exact hown.out⟩, hb.out⟩
  · have hok' : blkOk d xs = false := by simpa using hok
    have HR := hid (show stepsR d xs = [] by unfold stepsR; rw [if_neg hok])
    rw [hok'] at HBO
    clear hok hok'
    go_enter Try.func68, Try.ntmps68
    go_wp2_with fail
    refine HBO.out.mono ?_
    generalize (w.alloc (.cells #[.int .i64 d, .slice a0 xs.length c0] 49)).alloc (.cells #[] 85) = wa at *
    rintro e w1 ⟨rfl, hb1⟩
    have B1 := hid (HB.out.trans (hb1.mono HB.out.size))
    have O1 := hid (HO.out.below hb1)
    clear hb1
    go_wp2_with fail
    go_ret
    exact ⟨_, rfl, ⟨_, by rw [HR.out]; exact O1.out⟩, B1.out⟩
end Go.Proofs.Ytnnakmgngkpghaa
