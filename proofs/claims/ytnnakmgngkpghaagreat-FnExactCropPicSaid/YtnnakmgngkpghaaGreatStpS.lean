/- The contract of Steps of the specification. -/
import Derived.Test.YtnnakmgngkpghaaGreatGc
import Derived.Deep.RegionLaw
import Derived.Deep.CutRange
namespace Go.Proofs.YtnnakmgngkpghaaGreat
open Go.RowKit
set_option linter.unusedVariables false

theorem OwnT.mono {w : World} {base base' : Nat} {v : Value} {S : List (Int × Int × List Int)} {vs : List Value} (h : OwnT w base v S vs) (hb : base' ≤ base) : OwnT w base' v S vs := by
  obtain ⟨h1, h2, h3, h4, h5⟩ := h
  refine ⟨Nat.le_trans hb h1, h2, ⟨h3.1, ?_⟩, fun j hj => (h4 j hj).mono hb, h5⟩
  rcases h3.2 with h0 | ⟨g, cap, cur, hv, hg, r⟩
  · exact .inl h0
  · exact .inr ⟨g, cap, cur, hv, Nat.le_trans hb hg, r⟩

/-- The append of a step as one step of a statement that leaves its order open. -/
theorem step_pushS {P : Program} {ops : Array Oper} {o : Oper} {a : Act} {K : Act → World → Prop} {Q : Exit → Act → World → Prop} {E : Prop} (w : World) (gb : Nat) (hgb : w.heap.size = gb) (hgd : o.guard = none) (s x : Operand) (t : TypeId)
    (ho : o.op = .call { callee := .builtin .append, args := #[s, x], argTypes := #[t, t] })
    (base : Nat) (ht : P.underlying t = some (.slice 104)) (hinfo : (P.info? 104).map (fun i => (i.zero, i.size, i.bytes)) = some (some (.agg #[.int .i64 0, .int .i64 0, .slice none 0 0]), 3, 40))
    (v : Value) (S : List (Int × Int × List Int)) (vs : List Value) (hs : a.eval s = v) (hown : OwnT w base v S vs) (d e : Int) (ya : Option Addr) (yn yc : Nat) (xs : List Int) (hy : Own w base 3 .i64 (.slice ya yn yc) xs)
    (hyb : ∀ j, j < S.length → ∀ (a a' : Addr) (n n' c c' : Nat), vs.getD j (.bool false) = .slice (some a) n c → Value.slice ya yn yc = .slice (some a') n' c' → a.block < a'.block)
    (hx : a.eval x = .slice (some ⟨gb, 0, none⟩) 1 1)
    (hlen : S.length < 1000000000)
    (h : ∀ v' w', OwnT w' base v' (S ++ [(d, e, xs)]) (vs ++ [.slice ya yn yc]) → Below base w w' → K (a.put o.dst v') w') :
    if Region.wanted o (yielded ops a.tmps) = true then Oper.wp P o a (w.alloc (.cells #[.int .i64 d, .int .i64 e, .slice ya yn yc] 104)) K Q else E := by
  have hw : Region.wanted o (yielded ops a.tmps) = true := by simp [Region.wanted, hgd]
  rw [if_pos hw]
  subst hgb
  obtain ⟨i, hi, hz0, hz1, hz2⟩ := info_parts hinfo
  have hb := hown.1
  have hlt := hown.2.2.1.lt
  refine wp_append_own _ s x t ho base 104 i (.agg #[.int .i64 0, .int .i64 0, .slice none 0 0]) 3 40 ht hi hz0 hz1 hz2 rfl (by decide) v S.length _ hs (hown.2.2.1.alloc _) ⟨w.heap.size, 0, none⟩ 1 1 [.int .i64 d, .int .i64 e, .slice ya yn yc] hx rfl ?_ ?_ (by unfold maxLen; omega) (by omega) (Nat.le_trans hb (by simp)) ?_
  · intro j u hj
    match j, hj with
    | 0, hj => simp at hj; subst hj; simp [Addr.add]
    | 1, hj => simp at hj; subst hj; simp [Addr.add]
    | 2, hj => simp at hj; subst hj; simp [Addr.add]
  · intro u hu; simp at hu; rcases hu with rfl | rfl | rfl <;> rfl
  · intro v' w' hown' hgrow _
    refine h v' w' (OwnT.pushed (x := (d, e, xs)) hown hy hyb hown' hgrow) ?_
    exact ((Below.refl base w).alloc hb _).grown hgrow (Nat.le_trans hb (by simp)) (fun g hg => (hlt g hg).1)

set_option maxRecDepth 100000 in
set_option maxHeartbeats 6400000 in
theorem spec_steps (v : Value) (d : Int) (xs : List Int) (w : World) (hl : xs.length ≤ 1048576) (hv : BV w v d xs) :
    Calls Tryz.prog 74 #[v] w fun e w' => ∃ v', e = .returned v' ∧ (∃ vs, OwnT w' w.heap.size v' (stepsR d xs) vs) ∧ Below w.heap.size w w' := by
  obtain ⟨a0, c0, rfl, u0⟩ := hv
  have HB0 := hid ((Below.refl w.heap.size w).alloc (Nat.le_refl _) (.cells #[.int .i64 d, .slice a0 xs.length c0] 65))
  have HB := hid (HB0.out.alloc (show w.heap.size ≤ (w.alloc (.cells #[.int .i64 d, .slice a0 xs.length c0] 65)).heap.size by simp) (.cells #[] 104))
  have HT := hid ((Two.new w (.int .i64 d) (.slice a0 xs.length c0) 65).alloc (.cells #[] 104))
  have HO := hid (OwnT.empty (w.alloc (.cells #[.int .i64 d, .slice a0 xs.length c0] 65)) (w.heap.size + 1) (by simp))
  have HU := hid u0
  have HBO := hid (spec_blockOk (.agg #[.int .i64 d, .slice a0 xs.length c0]) d xs _ hl ⟨a0, c0, rfl, u0.below (Nat.le_refl _) HB.out⟩)
  simp only [World.size_alloc] at HO
  clear u0 HB0
  by_cases hok : blkOk d xs = true
  · have HR := hid (show stepsR d xs = stepsOf xs by unfold stepsR; rw [if_pos hok])
    have h63 : xs.length = 63 := by
      unfold blkOk at hok
      simp only [Bool.and_eq_true, decide_eq_true_eq] at hok
      exact hok.2.1
    have HIN := hid (fun k (hk : k < 63) => (show -1023 ≤ xs.getD k 0 ∧ xs.getD k 0 ≤ 1023 by
      unfold blkOk at hok
      simp only [Bool.and_eq_true, decide_eq_true_eq] at hok
      simpa [inC] using coefTo_at xs 63 hok.2.2 k hk))
    rw [hok] at HBO
    rw [h63] at HU HT HO HB HBO ⊢
    clear hok h63 hl
    go_enter Tryz.func74, Tryz.ntmps74
    go_wp2_with fail
    refine HBO.out.mono ?_
    generalize (w.alloc (.cells #[.int .i64 d, .slice a0 63 c0] 65)).alloc (.cells #[] 104) = wa at *
    rintro e w1 ⟨rfl, hb1⟩
    have B1 := hid (HB.out.trans (hb1.mono HB.out.size))
    have T1 := hid (HT.out.below hb1 HT.out.lt)
    have O1 := hid (HO.out.below hb1)
    clear hb1 HBO HO HT HB
    go_wp2_with fail
    go_loopw [3, 4, 5] (fun s r i wr => ∃ (k : Nat) (vs : List Value), k ≤ 63 ∧ i = .int .i64 k ∧ r = .int .i64 ((stepTo xs k).2 : Nat) ∧ Hid (OwnT wr (w.heap.size + 1) s (stepTo xs k).1 vs) ∧ Hid (Below w.heap.size w wr) ∧ Hid (Two wr w.heap.size (.int .i64 d) (.slice a0 63 c0) 65)) (fun _ _ i _ => 63 - (intOf i).toNat)
    case atStart => exact ⟨0, [], by omega, rfl, rfl, O1.out, B1.out, T1.out⟩
    case round =>
      obtain ⟨k, vs, hk, rfl, rfl, hown, hb, htw⟩ := hrel
      obtain ⟨q1, q2, q3, q4⟩ := htw.out.cells
      have hlen := stepTo_len xs k
      by_cases hlt : k < 63
      · obtain ⟨b, off, rfl, hc⟩ := (HU.out.below (Nat.le_refl _) hb.out).2 k hlt
        have hlt' : (k : Int) < 63 := by omega
        have hin := HIN.out k hlt
        have HZ := hid (stepTo_zero xs k)
        have HNM := hid (stepTo_num xs k)
        have HSZ := hid (fun q => spec_size (xs.getD k 0) q (by omega) (by omega))
        have HRS := hid (fun q => spec_rest (xs.getD k 0) q (by omega) (by omega))
        generalize (stepTo xs k).1 = S at *
        generalize (stepTo xs k).2 = r at *
        generalize hX : xs.getD k 0 = X at *
        by_cases hX0 : X = 0
        · have hd : (X == 0) = true := by simpa using hX0
          have HZ2 := hid (HZ.out hX0)
          clear HZ HNM HSZ HRS hX hX0
          go_wp2_with fail
          go_roundw
          case rel => exact ⟨k + 1, vs, by omega, by go_num, val_int (by rw [HZ2.out]; show _ = ((r + 1 : Nat) : Int); omega), by rw [HZ2.out]; exact hown.out, hb.out, htw.out⟩
          case measure => simp [intOf]; omega
        · have hd : (X == 0) = false := by simpa using hX0
          have HN2 := hid (HNM.out hX0)
          have HXE := hid hX
          clear HZ HNM hX hX0
          go_wp2_with fail
          go_loopw [3, 4] (fun s q wq => ∃ (i y : Nat) (us : List Value), i ≤ r / 16 ∧ q = .int .i64 (y : Nat) ∧ Hid (y + 16 * i = r) ∧ y ≤ 63 ∧ Hid (OwnT wq (w.heap.size + 1) s (S ++ List.replicate i skip) us) ∧ Hid (Below w.heap.size w wq) ∧ Hid (Two wq w.heap.size (.int .i64 d) (.slice (some ⟨b, off, none⟩) 63 c0) 65)) (fun _ q _ => (intOf q).toNat)
          case atStart => exact ⟨0, r, vs, by omega, rfl, rfl, by omega, by show OwnT _ _ _ _ _; simpa using hown.out, hb.out, htw.out⟩
          case round =>
            obtain ⟨i, y, us, hi, rfl, hy, hy63, hownq, hbq, htq⟩ := hrel
            obtain ⟨so, sc', hsv⟩ := hownq.out.shape
            have hSl : (S ++ List.replicate i skip).length < 1000000000 := by simp only [List.length_append, List.length_replicate]; omega
            by_cases hgt : 15 < y
            · have hgt' : (15 : Int) < (y : Int) := by omega
              have HYA := hid (Own.nil wr 3 .i64 (w.heap.size + 1) hownq.out.1)
              have HYB := hid (show ∀ j, j < (S ++ List.replicate i skip).length → ∀ (a a' : Addr) (n n' c c' : Nat), us.getD j (.bool false) = .slice (some a) n c → Value.slice none 0 0 = .slice (some a') n' c' → a.block < a'.block from fun j hj a a' n n' c c' e1 e2 => by cases e2)
              have hy16 : y - 16 + 16 * (i + 1) = r := by have := hy.out; omega
              have HY16 := hid hy16
              have hi2 : i + 1 ≤ r / 16 := by omega
              subst hsv
              clear hy16
              generalize hT : S ++ List.replicate i skip = T at *
              have HT2 := hid hT
              clear hT
              go_wp2_with (at_builtin; refine wpList_pushS wr wr.heap.size rfl rfl _ _ 101 rfl (w.heap.size + 1) Tryz.underlying101 Tryz.info104 _ T us (by rfl) hownq.out 15 0 none 0 0 [] HYA.out HYB.out (by rfl) hSl ?_)
              intro v9 w9 ho9 hb9
              have HO9 := hid ho9
              have HT9 := hid (htq.out.below hb9 (by omega))
              have HB9 := hid (hbq.out.trans (hb9.mono (by omega)))
              clear ho9 hb9
              go_wp2_with fail
              go_roundw
              case rel => exact ⟨i + 1, y - 16, _, hi2, val_int (by omega), HY16.out, by omega, by rw [skips_next, HT2.out]; exact HO9.out, HB9.out, HT9.out⟩
              case measure => simp [intOf]; omega
            · have hgt' : ¬ (15 : Int) < (y : Int) := by omega
              have hir : i = r / 16 := by have := hy.out; omega
              have hyr : y = r % 16 := by have := hy.out; omega
              subst hir
              subst hyr
              have HOLD := hid (fun j hj a n c e1 => hownq.out.lt j hj a n c e1)
              have hwr := hownq.out.1
              obtain ⟨q5, q6, q7, q8⟩ := htq.out.cells
              have hcr : wr.cell? ⟨b, off + k, none⟩ = some (.int .i64 X) := by
                obtain ⟨b', off', e', hc'⟩ := (HU.out.below (Nat.le_refl _) hbq.out).2 k hlt
                cases e'
                rw [hc', HXE.out]
              have HCR := hid (fun q (hq : Below wr.heap.size wr q) => (hq.cell (p := ⟨b, off + k, none⟩) (World.block_lt_of_cell? wr _ hcr)).trans hcr)
              have HTQ := hid (fun q (hq : Below wr.heap.size wr q) => htq.out.below hq htq.out.lt)
              subst hsv
              generalize hT : S ++ List.replicate (r / 16) skip = T at *
              have HT2 := hid hT
              clear hT hgt hi
              generalize sz X = ZX at *
              generalize restL X = RX at *
              generalize hRM : r % 16 = RM at *
              clear hRM
              go_wp2_with fail
              go_cut [3] from 31 to 47 (fun s wx => ∃ us', OwnT wx (w.heap.size + 1) s (T ++ [((RM : Int), ZX, RX)]) us' ∧ Below (w.heap.size + 1) wr wx)
              case first =>
                go_region_law (first
                  | (go_simp; go_at_call 72; refine (HSZ.out _).mono ?_; rintro e w5 ⟨rfl, rfl⟩)
                  | (go_simp; go_at_call 73; refine (HRS.out _).mono ?_
                     rintro e w6 ⟨v6, rfl, ho6, hb6⟩
                     obtain ⟨ya, yc, hyv⟩ := ho6.shape
                     subst hyv
                     have hc6 : Below wr.heap.size wr w6 := Below.trans (Below.refl _ _).drew hb6
                     have hcr6 := HCR.out w6 hc6
                     obtain ⟨r5, r6, r7, r8⟩ := (HTQ.out w6 hc6).cells
                     have hYB6 : ∀ j, j < T.length → ∀ (a a' : Addr) (n n' c c' : Nat), us.getD j (.bool false) = .slice (some a) n c → Value.slice ya RX.length yc = .slice (some a') n' c' → a.block < a'.block := fun j hj a a' n n' c c' e1 e2 => by
                       have h1 := HOLD.out j hj a n c e1
                       cases e2
                       exact Nat.lt_of_lt_of_le h1 ho6.ge.1
                     have hown6 := hownq.out.below hc6
                     have ho6' := ho6.mono hwr)
                  | (refine step_pushS w6 w6.heap.size rfl rfl (.tmp 31) (.tmp 46) 101 rfl (w.heap.size + 1) Tryz.underlying101 Tryz.info104 _ T us (by rfl) hown6 (RM : Int) ZX ya RX.length yc RX ho6' hYB6 (by rfl) hSl ?_
                     intro v9 w9 ho9 hb9
                     have hB9 := (hc6.mono hwr).trans hb9))
                all_goals
                  go_wp2_with fail
                  go_meet
                  exact ⟨_, ho9, hB9⟩
              case rest =>
                obtain ⟨us', ho9, hb9⟩ := hcut
                generalize hwc : wc = w9 at *
                clear hwc
                have HO9 := hid ho9
                have HT9 := hid (htq.out.below hb9 (by omega))
                have HB9 := hid (hbq.out.trans (hb9.mono (by omega)))
                clear ho9 hb9 q5 q6 q7 q8 hcr
                go_wp2_with fail
                go_roundw
                case rel => exact ⟨k + 1, _, by omega, by go_num, val_int (by rw [HN2.out]; rfl), by rw [HN2.out]; exact HO9.out, HB9.out, HT9.out⟩
                case measure => simp [intOf]; omega
      · obtain rfl : k = 63 := by omega
        have HST := hid (show stepsOf xs = if 0 < (stepTo xs 63).2 then (stepTo xs 63).1 ++ [(0, 0, [])] else (stepTo xs 63).1 from rfl)
        generalize (stepTo xs 63).1 = S at *
        generalize (stepTo xs 63).2 = r at *
        have hSl : S.length < 1000000000 := by omega
        obtain ⟨so, sc', hsv⟩ := hown.out.shape
        by_cases hr0 : 0 < r
        · have hr0' : (0 : Int) < (r : Int) := by omega
          rw [if_pos hr0] at HST
          have HYA := hid (Own.nil wr 3 .i64 (w.heap.size + 1) hown.out.1)
          have HYB := hid (show ∀ j, j < S.length → ∀ (a a' : Addr) (n n' c c' : Nat), vs.getD j (.bool false) = .slice (some a) n c → Value.slice none 0 0 = .slice (some a') n' c' → a.block < a'.block from fun j hj a a' n n' c c' e1 e2 => by cases e2)
          subst hsv
          go_wp2_with (at_builtin; refine wpList_pushS wr wr.heap.size rfl rfl _ _ 101 rfl (w.heap.size + 1) Tryz.underlying101 Tryz.info104 _ S vs (by rfl) hown.out 0 0 none 0 0 [] HYA.out HYB.out (by rfl) hSl ?_)
          intro v9 w9 ho9 hb9
          obtain ⟨s9, c9, hv9⟩ := ho9.shape
          have HO9 := hid ho9
          have HB9 := hid (hb.out.trans (hb9.mono (by omega)))
          subst hv9
          clear ho9 hb9
          go_wp2_with fail
          go_ret
          exact ⟨_, rfl, ⟨_, by rw [HR.out, HST.out]; exact HO9.out.mono (by omega)⟩, HB9.out⟩
        · have hr0' : ¬ (0 : Int) < (r : Int) := by omega
          rw [if_neg hr0] at HST
          subst hsv
          go_wp2_with fail
          go_ret
          exact ⟨_, rfl, ⟨_, by rw [HR.out, HST.out]; exact hown.out.mono (by omega)⟩, hb.out⟩
  · have hok' : blkOk d xs = false := by simpa using hok
    have HR := hid (show stepsR d xs = [] by unfold stepsR; rw [if_neg hok])
    rw [hok'] at HBO
    clear hok hok'
    go_enter Tryz.func74, Tryz.ntmps74
    go_wp2_with fail
    refine HBO.out.mono ?_
    generalize (w.alloc (.cells #[.int .i64 d, .slice a0 xs.length c0] 65)).alloc (.cells #[] 104) = wa at *
    rintro e w1 ⟨rfl, hb1⟩
    have B1 := hid (HB.out.trans (hb1.mono HB.out.size))
    have O1 := hid (HO.out.below hb1)
    clear hb1
    go_wp2_with fail
    go_ret
    exact ⟨_, rfl, ⟨_, by rw [HR.out]; exact O1.out.mono (by omega)⟩, B1.out⟩
end Go.Proofs.YtnnakmgngkpghaaGreat
