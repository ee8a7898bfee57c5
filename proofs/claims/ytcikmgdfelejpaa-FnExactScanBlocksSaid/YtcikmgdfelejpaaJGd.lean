/- Texts joined: StpI, StpS, From, SzBack, StpR. No statement is proved here. -/
import Derived.Test.YtcikmgdfelejpaaJGc
import Derived.Deep.RegionLaw
import Derived.Deep.CutRange
import Derived.Test.YtcikmgdfelejpaaJGb

/- The contract of Steps of the program. -/
namespace Go.Proofs.Ytcikmgdfelejpaa
open Go.RowKit
set_option linter.unusedVariables false

theorem skips_next (S : List (Int × Int × List Int)) (i : Nat) : S ++ List.replicate (i + 1) skip = (S ++ List.replicate i skip) ++ [skip] := by
  rw [List.replicate_succ', List.append_assoc]

set_option maxRecDepth 100000 in
set_option maxHeartbeats 6400000 in
theorem impl_steps (v : Value) (d : Int) (xs : List Int) (w : World) (hl : xs.length ≤ 1048576) (hv : BV w v d xs) :
    Calls Try.prog 75 #[v] w fun e w' => ∃ v', e = .returned v' ∧ (∃ vs, OwnT w' w.heap.size v' (stepsR d xs) vs) ∧ Below w.heap.size w w' := by
  obtain ⟨a0, c0, rfl, u0⟩ := hv
  have HB0 := hid ((Below.refl w.heap.size w).alloc (Nat.le_refl _) (.cells #[.int .i64 d, .slice a0 xs.length c0] 71))
  have HB := hid (HB0.out.alloc (show w.heap.size ≤ (w.alloc (.cells #[.int .i64 d, .slice a0 xs.length c0] 71)).heap.size by simp) (.cells #[] 73))
  have HT := hid ((Two.new w (.int .i64 d) (.slice a0 xs.length c0) 71).alloc (.cells #[] 73))
  have HO := hid (OwnT.empty (w.alloc (.cells #[.int .i64 d, .slice a0 xs.length c0] 71)) w.heap.size (by simp))
  have HU := hid u0
  have HBO := hid (impl_blockOk (.agg #[.int .i64 d, .slice a0 xs.length c0]) d xs _ hl ⟨a0, c0, rfl, u0.below (Nat.le_refl _) HB.out⟩)
  simp only [World.size_alloc] at HO
  clear u0 HB0
  by_cases hok : blkOk d xs = true
  · have HR := hid (show stepsR d xs = stepsOf xs by unfold stepsR; rw [if_pos hok])
    have h63 : xs.length = 63 := by
      unfold blkOk at hok
      simp only [Bool.and_eq_true, decide_eq_true_eq] at hok
      exact hok.2.1
    have HIN := hid (fun k (hk : k < 63) => (show -1023 ≤ xs.getD k 0 ∧ xs.getD k 0 ≤ 1023 by
      unfold blkOk at hok
      simp only [Bool.and_eq_true, decide_eq_true_eq] at hok
      simpa [inC] using coefTo_at xs 63 hok.2.2 k hk))
    rw [hok] at HBO
    rw [h63] at HU HT HO HB HBO ⊢
    clear hok h63 hl
    go_enter Try.func75, Try.ntmps75
    go_wp2_with fail
    refine HBO.out.mono ?_
    generalize (w.alloc (.cells #[.int .i64 d, .slice a0 63 c0] 71)).alloc (.cells #[] 73) = wa at *
    rintro e w1 ⟨rfl, hb1⟩
    have B1 := hid (HB.out.trans (hb1.mono HB.out.size))
    have T1 := hid (HT.out.below hb1 HT.out.lt)
    have O1 := hid (HO.out.below hb1)
    clear hb1 HBO HO HT HB
    obtain ⟨q1, q2, q3, q4⟩ := T1.out.cells
    go_wp2_with fail
    clear q1 q2 q3 q4
    go_loopw [3, 4, 15] (fun s r i wr => ∃ (k : Nat) (vs : List Value), k ≤ 63 ∧ i = .int .i64 k ∧ r = .int .i64 ((stepTo xs k).2 : Nat) ∧ Hid (OwnT wr w.heap.size s (stepTo xs k).1 vs) ∧ Hid (Below w.heap.size w wr)) (fun _ _ i _ => 63 - (intOf i).toNat)
    case atStart => exact ⟨0, [], by omega, rfl, rfl, O1.out, B1.out⟩
    case round =>
      obtain ⟨k, vs, hk, rfl, rfl, hown, hb⟩ := hrel
      have hlen := stepTo_len xs k
      by_cases hlt : k < 63
      · obtain ⟨b, off, rfl, hc⟩ := (HU.out.below (Nat.le_refl _) hb.out).2 k hlt
        have hlt' : (k : Int) < 63 := by omega
        have hin := HIN.out k hlt
        have HZ := hid (stepTo_zero xs k)
        have HNM := hid (stepTo_num xs k)
        have HSZ := hid (fun q => impl_size (xs.getD k 0) q (by omega) (by omega))
        have HRS := hid (fun q => impl_rest (xs.getD k 0) q (by omega) (by omega))
        generalize (stepTo xs k).1 = S at *
        generalize (stepTo xs k).2 = r at *
        generalize hX : xs.getD k 0 = X at *
        by_cases hX0 : X = 0
        · have hd : (X == 0) = true := by simpa using hX0
          have HZ2 := hid (HZ.out hX0)
          clear HZ HNM HSZ HRS hX hX0
          go_wp2_with fail
          go_roundw
          case rel => exact ⟨k + 1, vs, by omega, by go_num, val_int (by rw [HZ2.out]; show _ = ((r + 1 : Nat) : Int); omega), by rw [HZ2.out]; exact hown.out, hb.out⟩
          case measure => simp [intOf]; omega
        · have hd : (X == 0) = false := by simpa using hX0
          have HN2 := hid (HNM.out hX0)
          clear HZ HNM hX hX0
          go_wp2_with fail
          go_loopw [3, 4] (fun s q wq => ∃ (i y : Nat) (us : List Value), i ≤ r / 16 ∧ q = .int .i64 (y : Nat) ∧ Hid (y + 16 * i = r) ∧ y ≤ 63 ∧ Hid (OwnT wq w.heap.size s (S ++ List.replicate i skip) us) ∧ Hid (Below w.heap.size w wq)) (fun _ q _ => (intOf q).toNat)
          case atStart => exact ⟨0, r, vs, by omega, rfl, rfl, by omega, by show OwnT _ _ _ _ _; simpa using hown.out, hb.out⟩
          case round =>
            obtain ⟨i, y, us, hi, rfl, hy, hy63, hownq, hbq⟩ := hrel
            obtain ⟨so, sc', hsv⟩ := hownq.out.shape
            have hSl : (S ++ List.replicate i skip).length < 1000000000 := by simp only [List.length_append, List.length_replicate]; omega
            by_cases hgt : 15 < y
            · have hgt' : (15 : Int) < (y : Int) := by omega
              have hA := (Below.refl wr.heap.size wr).alloc (Nat.le_refl _) (.cells #[] 3)
              have HOA := hid (hownq.out.below hA)
              have HYA := hid (Own.empty wr 3 .i64 w.heap.size hbq.out.size)
              have HYB := hid (show ∀ j, j < (S ++ List.replicate i skip).length → ∀ (a a' : Addr) (n n' c c' : Nat), us.getD j (.bool false) = .slice (some a) n c → Value.slice (some ⟨wr.heap.size, 0, none⟩) 0 0 = .slice (some a') n' c' → a.block < a'.block from fun j hj a a' n n' c c' e1 e2 => by
                have := hownq.out.lt j hj a n c e1
                cases e2
                exact this)
              have HBA := hid (hbq.out.trans (hA.mono hbq.out.size))
              have hy16 : y - 16 + 16 * (i + 1) = r := by have := hy.out; omega
              have HY16 := hid hy16
              have hi2 : i + 1 ≤ r / 16 := by omega
              subst hsv
              clear hA hy16
              generalize hT : S ++ List.replicate i skip = T at *
              have HT2 := hid hT
              clear hT
              go_wp2_with (at_builtin; refine wpList_pushS (wr.alloc (.cells #[] 3)) (wr.heap.size + 1) (by simp) rfl _ _ 69 rfl w.heap.size Try.underlying69 Try.info73 _ T us (by rfl) HOA.out 15 0 (some ⟨wr.heap.size, 0, none⟩) 0 0 [] HYA.out HYB.out (by rfl) hSl ?_)
              intro v9 w9 ho9 hb9
              have HO9 := hid ho9
              have HB9 := hid (HBA.out.trans hb9)
              clear ho9 hb9
              go_wp2_with fail
              go_roundw
              case rel => exact ⟨i + 1, y - 16, _, hi2, val_int (by omega), HY16.out, by omega, by rw [skips_next, HT2.out]; exact HO9.out, HB9.out⟩
              case measure => simp [intOf]; omega
            · have hgt' : ¬ (15 : Int) < (y : Int) := by omega
              have hir : i = r / 16 := by have := hy.out; omega
              have hyr : y = r % 16 := by have := hy.out; omega
              subst hir
              subst hyr
              have HSZ2 := hid (HSZ.out wr)
              have HRS2 := hid (HRS.out wr)
              have HOLD := hid (fun j hj a n c e1 => hownq.out.lt j hj a n c e1)
              have hwr := hbq.out.size
              subst hsv
              generalize hT : S ++ List.replicate (r / 16) skip = T at *
              have HT2 := hid hT
              clear hT hgt hi
              generalize sz X = ZX at *
              generalize restL X = RX at *
              go_wp2_with fail
              refine HSZ2.out.mono ?_
              rintro e w5 ⟨rfl, rfl⟩
              go_wp2_with fail
              refine HRS2.out.mono ?_
              rintro e w6 ⟨v6, rfl, ho6, hb6⟩
              obtain ⟨ya, yc, hyv⟩ := ho6.shape
              subst hyv
              have HO6 := hid (hownq.out.below hb6)
              have HY6 := hid (ho6.mono hwr)
              have HYB := hid (show ∀ j, j < T.length → ∀ (a a' : Addr) (n n' c c' : Nat), us.getD j (.bool false) = .slice (some a) n c → Value.slice ya RX.length yc = .slice (some a') n' c' → a.block < a'.block from fun j hj a a' n n' c c' e1 e2 => by
                have h1 := HOLD.out j hj a n c e1
                cases e2
                have h2 := ho6.ge.1
                omega)
              have HB6 := hid (hbq.out.trans (hb6.mono hbq.out.size))
              clear ho6 hb6
              go_wp2_with (at_builtin; refine wpList_pushS w6 w6.heap.size rfl rfl _ _ 69 rfl w.heap.size Try.underlying69 Try.info73 _ T us (by rfl) HO6.out _ ZX ya RX.length yc RX HY6.out HYB.out (by rfl) hSl ?_)
              intro v9 w9 ho9 hb9
              have HO9 := hid ho9
              have HB9 := hid (HB6.out.trans hb9)
              clear ho9 hb9
              go_wp2_with fail
              go_roundw
              case rel => exact ⟨k + 1, _, by omega, by go_num, val_int (by rw [HN2.out]; rfl), by rw [HN2.out]; exact HO9.out, HB9.out⟩
              case measure => simp [intOf]; omega
      · obtain rfl : k = 63 := by omega
        have HST := hid (show stepsOf xs = if 0 < (stepTo xs 63).2 then (stepTo xs 63).1 ++ [(0, 0, [])] else (stepTo xs 63).1 from rfl)
        generalize (stepTo xs 63).1 = S at *
        generalize (stepTo xs 63).2 = r at *
        have hSl : S.length < 1000000000 := by omega
        obtain ⟨so, sc', hsv⟩ := hown.out.shape
        by_cases hr0 : 0 < r
        · have hr0' : (0 : Int) < (r : Int) := by omega
          rw [if_pos hr0] at HST
          have hA := (Below.refl wr.heap.size wr).alloc (Nat.le_refl _) (.cells #[] 3)
          have HOA := hid (hown.out.below hA)
          have HYA := hid (Own.empty wr 3 .i64 w.heap.size hb.out.size)
          have HYB := hid (show ∀ j, j < S.length → ∀ (a a' : Addr) (n n' c c' : Nat), vs.getD j (.bool false) = .slice (some a) n c → Value.slice (some ⟨wr.heap.size, 0, none⟩) 0 0 = .slice (some a') n' c' → a.block < a'.block from fun j hj a a' n n' c c' e1 e2 => by
            have := hown.out.lt j hj a n c e1
            cases e2
            exact this)
          have HBA := hid (hb.out.trans (hA.mono hb.out.size))
          subst hsv
          clear hA
          go_wp2_with (at_builtin; refine wpList_pushS (wr.alloc (.cells #[] 3)) (wr.heap.size + 1) (by simp) rfl _ _ 69 rfl w.heap.size Try.underlying69 Try.info73 _ S vs (by rfl) HOA.out 0 0 (some ⟨wr.heap.size, 0, none⟩) 0 0 [] HYA.out HYB.out (by rfl) hSl ?_)
          intro v9 w9 ho9 hb9
          obtain ⟨s9, c9, hv9⟩ := ho9.shape
          have HO9 := hid ho9
          have HB9 := hid (HBA.out.trans hb9)
          subst hv9
          clear ho9 hb9
          go_wp2_with fail
          go_ret
          exact ⟨_, rfl, ⟨_, by rw [HR.out, HST.out]; exact HO9.out⟩, HB9.out⟩
        · have hr0' : ¬ (0 : Int) < (r : Int) := by omega
          rw [if_neg hr0] at HST
          subst hsv
          go_wp2_with fail
          go_ret
          exact ⟨_, rfl, ⟨_, by rw [HR.out, HST.out]; exact hown.out⟩, hb.out⟩
  · have hok' : blkOk d xs = false := by simpa using hok
    have HR := hid (show stepsR d xs = [] by unfold stepsR; rw [if_neg hok])
    rw [hok'] at HBO
    clear hok hok'
    go_enter Try.func75, Try.ntmps75
    go_wp2_with fail
    refine HBO.out.mono ?_
    generalize (w.alloc (.cells #[.int .i64 d, .slice a0 xs.length c0] 71)).alloc (.cells #[] 73) = wa at *
    rintro e w1 ⟨rfl, hb1⟩
    have B1 := hid (HB.out.trans (hb1.mono HB.out.size))
    have O1 := hid (HO.out.below hb1)
    clear hb1
    go_wp2_with fail
    go_ret
    exact ⟨_, rfl, ⟨_, by rw [HR.out]; exact O1.out⟩, B1.out⟩
end Go.Proofs.Ytcikmgdfelejpaa

/- The contract of Steps of the specification. -/
namespace Go.Proofs.Ytcikmgdfelejpaa
open Go.RowKit
set_option linter.unusedVariables false

theorem OwnT.mono {w : World} {base base' : Nat} {v : Value} {S : List (Int × Int × List Int)} {vs : List Value} (h : OwnT w base v S vs) (hb : base' ≤ base) : OwnT w base' v S vs := by
  obtain ⟨h1, h2, h3, h4, h5⟩ := h
  refine ⟨Nat.le_trans hb h1, h2, ⟨h3.1, ?_⟩, fun j hj => (h4 j hj).mono hb, h5⟩
  rcases h3.2 with h0 | ⟨g, cap, cur, hv, hg, r⟩
  · exact .inl h0
  · exact .inr ⟨g, cap, cur, hv, Nat.le_trans hb hg, r⟩

/-- The append of a step as one step of a statement that leaves its order open. -/
theorem step_pushS {P : Program} {ops : Array Oper} {o : Oper} {a : Act} {K : Act → World → Prop} {Q : Exit → Act → World → Prop} {E : Prop} (w : World) (gb : Nat) (hgb : w.heap.size = gb) (hgd : o.guard = none) (s x : Operand) (t : TypeId)
    (ho : o.op = .call { callee := .builtin .append, args := #[s, x], argTypes := #[t, t] })
    (base : Nat) (ht : P.underlying t = some (.slice 73)) (hinfo : (P.info? 73).map (fun i => (i.zero, i.size, i.bytes)) = some (some (.agg #[.int .i64 0, .int .i64 0, .slice none 0 0]), 3, 40))
    (v : Value) (S : List (Int × Int × List Int)) (vs : List Value) (hs : a.eval s = v) (hown : OwnT w base v S vs) (d e : Int) (ya : Option Addr) (yn yc : Nat) (xs : List Int) (hy : Own w base 3 .i64 (.slice ya yn yc) xs)
    (hyb : ∀ j, j < S.length → ∀ (a a' : Addr) (n n' c c' : Nat), vs.getD j (.bool false) = .slice (some a) n c → Value.slice ya yn yc = .slice (some a') n' c' → a.block < a'.block)
    (hx : a.eval x = .slice (some ⟨gb, 0, none⟩) 1 1)
    (hlen : S.length < 1000000000)
    (h : ∀ v' w', OwnT w' base v' (S ++ [(d, e, xs)]) (vs ++ [.slice ya yn yc]) → Below base w w' → K (a.put o.dst v') w') :
    if Region.wanted o (yielded ops a.tmps) = true then Oper.wp P o a (w.alloc (.cells #[.int .i64 d, .int .i64 e, .slice ya yn yc] 73)) K Q else E := by
  have hw : Region.wanted o (yielded ops a.tmps) = true := by simp [Region.wanted, hgd]
  rw [if_pos hw]
  subst hgb
  obtain ⟨i, hi, hz0, hz1, hz2⟩ := info_parts hinfo
  have hb := hown.1
  have hlt := hown.2.2.1.lt
  refine wp_append_own _ s x t ho base 73 i (.agg #[.int .i64 0, .int .i64 0, .slice none 0 0]) 3 40 ht hi hz0 hz1 hz2 rfl (by decide) v S.length _ hs (hown.2.2.1.alloc _) ⟨w.heap.size, 0, none⟩ 1 1 [.int .i64 d, .int .i64 e, .slice ya yn yc] hx rfl ?_ ?_ (by unfold maxLen; omega) (by omega) (Nat.le_trans hb (by simp)) ?_
  · intro j u hj
    match j, hj with
    | 0, hj => simp at hj; subst hj; simp [Addr.add]
    | 1, hj => simp at hj; subst hj; simp [Addr.add]
    | 2, hj => simp at hj; subst hj; simp [Addr.add]
  · intro u hu; simp at hu; rcases hu with rfl | rfl | rfl <;> rfl
  · intro v' w' hown' hgrow _
    refine h v' w' (OwnT.pushed (x := (d, e, xs)) hown hy hyb hown' hgrow) ?_
    exact ((Below.refl base w).alloc hb _).grown hgrow (Nat.le_trans hb (by simp)) (fun g hg => (hlt g hg).1)

set_option maxRecDepth 100000 in
set_option maxHeartbeats 6400000 in
theorem spec_steps (v : Value) (d : Int) (xs : List Int) (w : World) (hl : xs.length ≤ 1048576) (hv : BV w v d xs) :
    Calls Try.prog 42 #[v] w fun e w' => ∃ v', e = .returned v' ∧ (∃ vs, OwnT w' w.heap.size v' (stepsR d xs) vs) ∧ Below w.heap.size w w' := by
  obtain ⟨a0, c0, rfl, u0⟩ := hv
  have HB0 := hid ((Below.refl w.heap.size w).alloc (Nat.le_refl _) (.cells #[.int .i64 d, .slice a0 xs.length c0] 71))
  have HB := hid (HB0.out.alloc (show w.heap.size ≤ (w.alloc (.cells #[.int .i64 d, .slice a0 xs.length c0] 71)).heap.size by simp) (.cells #[] 73))
  have HT := hid ((Two.new w (.int .i64 d) (.slice a0 xs.length c0) 71).alloc (.cells #[] 73))
  have HO := hid (OwnT.empty (w.alloc (.cells #[.int .i64 d, .slice a0 xs.length c0] 71)) (w.heap.size + 1) (by simp))
  have HU := hid u0
  have HBO := hid (spec_blockOk (.agg #[.int .i64 d, .slice a0 xs.length c0]) d xs _ hl ⟨a0, c0, rfl, u0.below (Nat.le_refl _) HB.out⟩)
  simp only [World.size_alloc] at HO
  clear u0 HB0
  by_cases hok : blkOk d xs = true
  · have HR := hid (show stepsR d xs = stepsOf xs by unfold stepsR; rw [if_pos hok])
    have h63 : xs.length = 63 := by
      unfold blkOk at hok
      simp only [Bool.and_eq_true, decide_eq_true_eq] at hok
      exact hok.2.1
    have HIN := hid (fun k (hk : k < 63) => (show -1023 ≤ xs.getD k 0 ∧ xs.getD k 0 ≤ 1023 by
      unfold blkOk at hok
      simp only [Bool.and_eq_true, decide_eq_true_eq] at hok
      simpa [inC] using coefTo_at xs 63 hok.2.2 k hk))
    rw [hok] at HBO
    rw [h63] at HU HT HO HB HBO ⊢
    clear hok h63 hl
    go_enter Try.func42, Try.ntmps42
    go_wp2_with fail
    refine HBO.out.mono ?_
    generalize (w.alloc (.cells #[.int .i64 d, .slice a0 63 c0] 71)).alloc (.cells #[] 73) = wa at *
    rintro e w1 ⟨rfl, hb1⟩
    have B1 := hid (HB.out.trans (hb1.mono HB.out.size))
    have T1 := hid (HT.out.below hb1 HT.out.lt)
    have O1 := hid (HO.out.below hb1)
    clear hb1 HBO HO HT HB
    go_wp2_with fail
    go_loopw [3, 4, 5] (fun s r i wr => ∃ (k : Nat) (vs : List Value), k ≤ 63 ∧ i = .int .i64 k ∧ r = .int .i64 ((stepTo xs k).2 : Nat) ∧ Hid (OwnT wr (w.heap.size + 1) s (stepTo xs k).1 vs) ∧ Hid (Below w.heap.size w wr) ∧ Hid (Two wr w.heap.size (.int .i64 d) (.slice a0 63 c0) 71)) (fun _ _ i _ => 63 - (intOf i).toNat)
    case atStart => exact ⟨0, [], by omega, rfl, rfl, O1.out, B1.out, T1.out⟩
    case round =>
      obtain ⟨k, vs, hk, rfl, rfl, hown, hb, htw⟩ := hrel
      obtain ⟨q1, q2, q3, q4⟩ := htw.out.cells
      have hlen := stepTo_len xs k
      by_cases hlt : k < 63
      · obtain ⟨b, off, rfl, hc⟩ := (HU.out.below (Nat.le_refl _) hb.out).2 k hlt
        have hlt' : (k : Int) < 63 := by omega
        have hin := HIN.out k hlt
        have HZ := hid (stepTo_zero xs k)
        have HNM := hid (stepTo_num xs k)
        have HSZ := hid (fun q => spec_size (xs.getD k 0) q (by omega) (by omega))
        have HRS := hid (fun q => spec_rest (xs.getD k 0) q (by omega) (by omega))
        generalize (stepTo xs k).1 = S at *
        generalize (stepTo xs k).2 = r at *
        generalize hX : xs.getD k 0 = X at *
        by_cases hX0 : X = 0
        · have hd : (X == 0) = true := by simpa using hX0
          have HZ2 := hid (HZ.out hX0)
          clear HZ HNM HSZ HRS hX hX0
          go_wp2_with fail
          go_roundw
          case rel => exact ⟨k + 1, vs, by omega, by go_num, val_int (by rw [HZ2.out]; show _ = ((r + 1 : Nat) : Int); omega), by rw [HZ2.out]; exact hown.out, hb.out, htw.out⟩
          case measure => simp [intOf]; omega
        · have hd : (X == 0) = false := by simpa using hX0
          have HN2 := hid (HNM.out hX0)
          have HXE := hid hX
          clear HZ HNM hX hX0
          go_wp2_with fail
          go_loopw [3, 4] (fun s q wq => ∃ (i y : Nat) (us : List Value), i ≤ r / 16 ∧ q = .int .i64 (y : Nat) ∧ Hid (y + 16 * i = r) ∧ y ≤ 63 ∧ Hid (OwnT wq (w.heap.size + 1) s (S ++ List.replicate i skip) us) ∧ Hid (Below w.heap.size w wq) ∧ Hid (Two wq w.heap.size (.int .i64 d) (.slice (some ⟨b, off, none⟩) 63 c0) 71)) (fun _ q _ => (intOf q).toNat)
          case atStart => exact ⟨0, r, vs, by omega, rfl, rfl, by omega, by show OwnT _ _ _ _ _; simpa using hown.out, hb.out, htw.out⟩
          case round =>
            obtain ⟨i, y, us, hi, rfl, hy, hy63, hownq, hbq, htq⟩ := hrel
            obtain ⟨so, sc', hsv⟩ := hownq.out.shape
            have hSl : (S ++ List.replicate i skip).length < 1000000000 := by simp only [List.length_append, List.length_replicate]; omega
            by_cases hgt : 15 < y
            · have hgt' : (15 : Int) < (y : Int) := by omega
              have HYA := hid (Own.nil wr 3 .i64 (w.heap.size + 1) hownq.out.1)
              have HYB := hid (show ∀ j, j < (S ++ List.replicate i skip).length → ∀ (a a' : Addr) (n n' c c' : Nat), us.getD j (.bool false) = .slice (some a) n c → Value.slice none 0 0 = .slice (some a') n' c' → a.block < a'.block from fun j hj a a' n n' c c' e1 e2 => by cases e2)
              have hy16 : y - 16 + 16 * (i + 1) = r := by have := hy.out; omega
              have HY16 := hid hy16
              have hi2 : i + 1 ≤ r / 16 := by omega
              subst hsv
              clear hy16
              generalize hT : S ++ List.replicate i skip = T at *
              have HT2 := hid hT
              clear hT
              go_wp2_with (at_builtin; refine wpList_pushS wr wr.heap.size rfl rfl _ _ 69 rfl (w.heap.size + 1) Try.underlying69 Try.info73 _ T us (by rfl) hownq.out 15 0 none 0 0 [] HYA.out HYB.out (by rfl) hSl ?_)
              intro v9 w9 ho9 hb9
              have HO9 := hid ho9
              have HT9 := hid (htq.out.below hb9 (by omega))
              have HB9 := hid (hbq.out.trans (hb9.mono (by omega)))
              clear ho9 hb9
              go_wp2_with fail
              go_roundw
              case rel => exact ⟨i + 1, y - 16, _, hi2, val_int (by omega), HY16.out, by omega, by rw [skips_next, HT2.out]; exact HO9.out, HB9.out, HT9.out⟩
              case measure => simp [intOf]; omega
            · have hgt' : ¬ (15 : Int) < (y : Int) := by omega
              have hir : i = r / 16 := by have := hy.out; omega
              have hyr : y = r % 16 := by have := hy.out; omega
              subst hir
              subst hyr
              have HOLD := hid (fun j hj a n c e1 => hownq.out.lt j hj a n c e1)
              have hwr := hownq.out.1
              obtain ⟨q5, q6, q7, q8⟩ := htq.out.cells
              have hcr : wr.cell? ⟨b, off + k, none⟩ = some (.int .i64 X) := by
                obtain ⟨b', off', e', hc'⟩ := (HU.out.below (Nat.le_refl _) hbq.out).2 k hlt
                cases e'
                rw [hc', HXE.out]
              have HCR := hid (fun q (hq : Below wr.heap.size wr q) => (hq.cell (p := ⟨b, off + k, none⟩) (World.block_lt_of_cell? wr _ hcr)).trans hcr)
              have HTQ := hid (fun q (hq : Below wr.heap.size wr q) => htq.out.below hq htq.out.lt)
              subst hsv
              generalize hT : S ++ List.replicate (r / 16) skip = T at *
              have HT2 := hid hT
              clear hT hgt hi
              generalize sz X = ZX at *
              generalize restL X = RX at *
              generalize hRM : r % 16 = RM at *
              clear hRM
              go_wp2_with fail
              go_cut [3] from 31 to 47 (fun s wx => ∃ us', OwnT wx (w.heap.size + 1) s (T ++ [((RM : Int), ZX, RX)]) us' ∧ Below (w.heap.size + 1) wr wx)
              case first =>
                go_region_law (first
                  | (go_simp; go_at_call 40; refine (HSZ.out _).mono ?_; rintro e w5 ⟨rfl, rfl⟩)
                  | (go_simp; go_at_call 41; refine (HRS.out _).mono ?_
                     rintro e w6 ⟨v6, rfl, ho6, hb6⟩
                     obtain ⟨ya, yc, hyv⟩ := ho6.shape
                     subst hyv
                     have hc6 : Below wr.heap.size wr w6 := Below.trans (Below.refl _ _).drew hb6
                     have hcr6 := HCR.out w6 hc6
                     obtain ⟨r5, r6, r7, r8⟩ := (HTQ.out w6 hc6).cells
                     have hYB6 : ∀ j, j < T.length → ∀ (a a' : Addr) (n n' c c' : Nat), us.getD j (.bool false) = .slice (some a) n c → Value.slice ya RX.length yc = .slice (some a') n' c' → a.block < a'.block := fun j hj a a' n n' c c' e1 e2 => by
                       have h1 := HOLD.out j hj a n c e1
                       cases e2
                       exact Nat.lt_of_lt_of_le h1 ho6.ge.1
                     have hown6 := hownq.out.below hc6
                     have ho6' := ho6.mono hwr)
                  | (refine step_pushS w6 w6.heap.size rfl rfl (.tmp 31) (.tmp 46) 69 rfl (w.heap.size + 1) Try.underlying69 Try.info73 _ T us (by rfl) hown6 (RM : Int) ZX ya RX.length yc RX ho6' hYB6 (by rfl) hSl ?_
                     intro v9 w9 ho9 hb9
                     have hB9 := (hc6.mono hwr).trans hb9))
                all_goals
                  go_wp2_with fail
                  go_meet
                  exact ⟨_, ho9, hB9⟩
              case rest =>
                obtain ⟨us', ho9, hb9⟩ := hcut
                generalize hwc : wc = w9 at *
                clear hwc
                have HO9 := hid ho9
                have HT9 := hid (htq.out.below hb9 (by omega))
                have HB9 := hid (hbq.out.trans (hb9.mono (by omega)))
                clear ho9 hb9 q5 q6 q7 q8 hcr
                go_wp2_with fail
                go_roundw
                case rel => exact ⟨k + 1, _, by omega, by go_num, val_int (by rw [HN2.out]; rfl), by rw [HN2.out]; exact HO9.out, HB9.out, HT9.out⟩
                case measure => simp [intOf]; omega
      · obtain rfl : k = 63 := by omega
        have HST := hid (show stepsOf xs = if 0 < (stepTo xs 63).2 then (stepTo xs 63).1 ++ [(0, 0, [])] else (stepTo xs 63).1 from rfl)
        generalize (stepTo xs 63).1 = S at *
        generalize (stepTo xs 63).2 = r at *
        have hSl : S.length < 1000000000 := by omega
        obtain ⟨so, sc', hsv⟩ := hown.out.shape
        by_cases hr0 : 0 < r
        · have hr0' : (0 : Int) < (r : Int) := by omega
          rw [if_pos hr0] at HST
          have HYA := hid (Own.nil wr 3 .i64 (w.heap.size + 1) hown.out.1)
          have HYB := hid (show ∀ j, j < S.length → ∀ (a a' : Addr) (n n' c c' : Nat), vs.getD j (.bool false) = .slice (some a) n c → Value.slice none 0 0 = .slice (some a') n' c' → a.block < a'.block from fun j hj a a' n n' c c' e1 e2 => by cases e2)
          subst hsv
          go_wp2_with (at_builtin; refine wpList_pushS wr wr.heap.size rfl rfl _ _ 69 rfl (w.heap.size + 1) Try.underlying69 Try.info73 _ S vs (by rfl) hown.out 0 0 none 0 0 [] HYA.out HYB.out (by rfl) hSl ?_)
          intro v9 w9 ho9 hb9
          obtain ⟨s9, c9, hv9⟩ := ho9.shape
          have HO9 := hid ho9
          have HB9 := hid (hb.out.trans (hb9.mono (by omega)))
          subst hv9
          clear ho9 hb9
          go_wp2_with fail
          go_ret
          exact ⟨_, rfl, ⟨_, by rw [HR.out, HST.out]; exact HO9.out.mono (by omega)⟩, HB9.out⟩
        · have hr0' : ¬ (0 : Int) < (r : Int) := by omega
          rw [if_neg hr0] at HST
          subst hsv
          go_wp2_with fail
          go_ret
          exact ⟨_, rfl, ⟨_, by rw [HR.out, HST.out]; exact hown.out.mono (by omega)⟩, hb.out⟩
  · have hok' : blkOk d xs = false := by simpa using hok
    have HR := hid (show stepsR d xs = [] by unfold stepsR; rw [if_neg hok])
    rw [hok'] at HBO
    clear hok hok'
    go_enter Try.func42, Try.ntmps42
    go_wp2_with fail
    refine HBO.out.mono ?_
    generalize (w.alloc (.cells #[.int .i64 d, .slice a0 xs.length c0] 71)).alloc (.cells #[] 73) = wa at *
    rintro e w1 ⟨rfl, hb1⟩
    have B1 := hid (HB.out.trans (hb1.mono HB.out.size))
    have O1 := hid (HO.out.below hb1)
    clear hb1
    go_wp2_with fail
    go_ret
    exact ⟨_, rfl, ⟨_, by rw [HR.out]; exact O1.out.mono (by omega)⟩, B1.out⟩
end Go.Proofs.Ytcikmgdfelejpaa

/- Contracts of FromRest, of the program and of the specification, and the walk of the law FnExactFromRest. -/
namespace Go.Proofs.Ytcikmgdfelejpaa
open Go.RowKit
set_option linter.unusedVariables false

/-- All numbers of a list are bits. -/
def AllBits (xs : List Int) : Prop := ∀ j, j < xs.length → Bit (xs.getD j 0)
/-- The number that bits are the rest of. -/
def frv (xs : List Int) : Int := if 0 < xs.length ∧ xs.getD 0 0 = 0 then num (pad xs) 0 xs.length - (2 ^ xs.length - 1) else num (pad xs) 0 xs.length
/-- The bits are a rest of n bits. -/
def GoodRest (n : Int) (xs : List Int) : Prop := (0 ≤ n ∧ n ≤ 11) ∧ (xs.length : Int) = n ∧ AllBits xs
theorem ret_ib {a b : Int} {c : Bool} (h : a = b) : Ending.returned (.tuple #[.int .i64 a, .bool c]) = .returned (.tuple #[.int .i64 b, .bool c]) := by rw [h]
theorem sz2047 : sz 2047 = 11 := by decide +kernel
theorem frv_low {xs : List Int} (h : 0 < xs.length ∧ xs.getD 0 0 = 0) : frv xs = num (pad xs) 0 xs.length - (2 ^ xs.length - 1) := by unfold frv; rw [if_pos h]
theorem frv_high {xs : List Int} (h : ¬ (0 < xs.length ∧ xs.getD 0 0 = 0)) : frv xs = num (pad xs) 0 xs.length := by unfold frv; rw [if_neg h]

set_option maxHeartbeats 1600000 in
theorem impl_from (ao : Option Addr) (cap : Nat) (xs : List Int) (w : World) (hl : xs.length ≤ 11) (hv : View .i64 w ao xs.length xs) (hall : AllBits xs) :
    Calls Try.prog 103 #[.int .i64 xs.length, .slice ao xs.length cap] w fun e w' => e = .returned (.tuple #[.int .i64 (frv xs), .bool true]) ∧ Below w.heap.size w w' := by
  have HS := hid (impl_size 2047 w (by decide) (by decide))
  rw [sz2047] at HS
  have HB := hid (areBits_yes ao xs.length cap xs w (by omega) hv hall)
  have HN := hid (impl_bitsNum ao xs.length cap xs w (by omega) hv hall)
  have HV := hid hv
  have hp := pow_small xs.length hl
  have hnum := num_bd (pad xs) (pad_bit xs hall) 0 xs.length
  have n0 := hnum.1
  have n1 := hnum.2
  by_cases h : 0 < xs.length ∧ xs.getD 0 0 = 0
  · have hf := hid (frv_low h)
    obtain ⟨b, off, rfl, hc⟩ := hv.2 0 h.1
    have hpos : (0 : Int) < (xs.length : Int) := by omega
    rw [h.2] at hc
    have HC := hid (fun w' (hb : Below w.heap.size w w') => (hb.cell (p := ⟨b, off + 0, none⟩) (World.block_lt_of_cell? w _ hc)).trans hc)
    clear hv hall h hnum HV hc
    generalize num (pad xs) 0 xs.length = N at *
    generalize xs.length = n at *
    generalize hP : (2 : Int) ^ n = P at *
    have hnn : ((n : Int) != (n : Int)) = false := by simp
    go_enter Try.func103, Try.ntmps103
    go_wp2_with (first
      | (go_at_call 73; refine HS.out.mono ?_; rintro e w1 ⟨rfl, rfl⟩)
      | (go_at_call 54; refine HB.out.mono ?_; rintro e w1 ⟨rfl, rfl⟩))
    refine HN.out.mono ?_
    rintro e w1 ⟨rfl, hb⟩
    have hc1 := HC.out w1 hb
    simp only [Nat.add_zero] at hc1
    go_wp2
    go_ret2
    exact ⟨ret_ib (by rw [hf.out]), hb⟩
  · have hf := hid (frv_high h)
    by_cases hpos : 0 < xs.length
    · have hne : xs.getD 0 0 ≠ 0 := fun e => h ⟨hpos, e⟩
      have h1 : xs.getD 0 0 = 1 := (hall 0 hpos).resolve_left hne
      obtain ⟨b, off, rfl, hc⟩ := hv.2 0 hpos
      have hpos' : (0 : Int) < (xs.length : Int) := by omega
      rw [h1] at hc
      have HC := hid (fun w' (hb : Below w.heap.size w w') => (hb.cell (p := ⟨b, off + 0, none⟩) (World.block_lt_of_cell? w _ hc)).trans hc)
      clear hv hall h hnum HV hc h1 hne
      generalize num (pad xs) 0 xs.length = N at *
      generalize xs.length = n at *
      generalize (2 : Int) ^ n = P at *
      have hnn : ((n : Int) != (n : Int)) = false := by simp
      go_enter Try.func103, Try.ntmps103
      go_wp2_with (first
        | (go_at_call 73; refine HS.out.mono ?_; rintro e w1 ⟨rfl, rfl⟩)
        | (go_at_call 54; refine HB.out.mono ?_; rintro e w1 ⟨rfl, rfl⟩))
      refine HN.out.mono ?_
      rintro e w1 ⟨rfl, hb⟩
      have hc1 := HC.out w1 hb
      simp only [Nat.add_zero] at hc1
      go_wp2
      go_ret2
      exact ⟨ret_ib (by rw [hf.out]), hb⟩
    · have hz : xs.length = 0 := by omega
      clear hv hall h hnum HV
      generalize num (pad xs) 0 xs.length = N at *
      generalize xs.length = n at *
      subst hz
      go_enter Try.func103, Try.ntmps103
      go_wp2_with (first
        | (go_at_call 73; refine HS.out.mono ?_; rintro e w1 ⟨rfl, rfl⟩)
        | (go_at_call 54; refine HB.out.mono ?_; rintro e w1 ⟨rfl, rfl⟩))
      refine HN.out.mono ?_
      rintro e w1 ⟨rfl, hb⟩
      go_wp2
      go_ret2
      exact ⟨ret_ib (by rw [hf.out]), hb⟩

set_option maxHeartbeats 1600000 in
theorem impl_from_no (ao : Option Addr) (cap : Nat) (n : Int) (xs : List Int) (w : World) (hl : xs.length ≤ 1048576) (hv : View .i64 w ao xs.length xs) (hbad : ¬ GoodRest n xs) :
    Calls Try.prog 103 #[.int .i64 n, .slice ao xs.length cap] w fun e w' => e = .returned (.tuple #[.int .i64 0, .bool false]) ∧ Below w.heap.size w w' := by
  have HS := hid (impl_size 2047 w (by decide) (by decide))
  rw [sz2047] at HS
  by_cases a1 : n < 0
  · clear hbad
    go_enter Try.func103, Try.ntmps103
    go_wp2_with fail
    go_ret2
    exact ⟨rfl, Below.refl _ _⟩
  · by_cases a2 : 11 < n
    · clear hbad
      go_enter Try.func103, Try.ntmps103
      go_wp2_with (go_at_call 73; refine HS.out.mono ?_; rintro e w1 ⟨rfl, rfl⟩)
      go_ret2
      exact ⟨rfl, Below.refl _ _⟩
    · by_cases a3 : (xs.length : Int) = n
      · have a4 : ¬ AllBits xs := fun h => hbad ⟨⟨by omega, by omega⟩, a3, h⟩
        have HB := hid (areBits_no ao xs.length cap xs w (by omega) hv a4)
        subst a3
        have hnn : ((xs.length : Int) != (xs.length : Int)) = false := by simp
        clear hbad a4 hv
        go_enter Try.func103, Try.ntmps103
        go_wp2_with (first
          | (go_at_call 73; refine HS.out.mono ?_; rintro e w1 ⟨rfl, rfl⟩)
          | (go_at_call 54; refine HB.out.mono ?_; rintro e w1 ⟨rfl, rfl⟩))
        go_ret2
        exact ⟨rfl, Below.refl _ _⟩
      · have hnn : ((xs.length : Int) != n) = true := by simpa using a3
        clear hbad hv a3
        go_enter Try.func103, Try.ntmps103
        go_wp2_with (go_at_call 73; refine HS.out.mono ?_; rintro e w1 ⟨rfl, rfl⟩)
        go_ret2
        exact ⟨rfl, Below.refl _ _⟩

set_option maxHeartbeats 1600000 in
theorem spec_from (ao : Option Addr) (cap : Nat) (xs : List Int) (w : World) (hl : xs.length ≤ 11) (hv : View .i64 w ao xs.length xs) (hall : AllBits xs) :
    Calls Try.prog 98 #[.int .i64 xs.length, .slice ao xs.length cap] w fun e w' => e = .returned (.tuple #[.int .i64 (frv xs), .bool true]) ∧ w = w' := by
  have HS := hid (spec_in (xs.length : Int) 0 11 w)
  rw [show decide ((0 : Int) ≤ (xs.length : Int) ∧ (xs.length : Int) ≤ 11) = true by simp; omega] at HS
  have HB := hid (specBits_yes ao xs.length cap xs w (by omega) hv hall)
  have HN := hid (spec_bitsNum ao xs.length cap xs w (by omega) hv hall)
  have HP := hid (pow2_any xs.length w (by omega))
  have hp := pow_small xs.length hl
  have hnum := num_bd (pad xs) (pad_bit xs hall) 0 xs.length
  have n0 := hnum.1
  have n1 := hnum.2
  by_cases h : 0 < xs.length ∧ xs.getD 0 0 = 0
  · have hf := hid (frv_low h)
    obtain ⟨b, off, rfl, hc⟩ := hv.2 0 h.1
    have hpos : (0 : Int) < (xs.length : Int) := by omega
    rw [h.2, Nat.add_zero] at hc
    clear hv hall h hnum
    generalize num (pad xs) 0 xs.length = N at *
    generalize xs.length = n at *
    generalize (2 : Int) ^ n = P at *
    have hnn : ((n : Int) != (n : Int)) = false := by simp
    go_enter Try.func98, Try.ntmps98
    go_wp2_with (first
      | (go_at_call 51; refine HS.out.mono ?_; rintro e w1 ⟨rfl, rfl⟩)
      | (go_at_call 52; refine HB.out.mono ?_; rintro e w1 ⟨rfl, rfl⟩)
      | (go_at_call 112; refine HN.out.mono ?_; rintro e w1 ⟨rfl, rfl⟩)
      | (go_at_call 68; refine HP.out.mono ?_; rintro e w1 ⟨rfl, rfl⟩))
    go_ret2
    exact ⟨ret_ib (by rw [hf.out]; omega), rfl⟩
  · have hf := hid (frv_high h)
    by_cases hpos : 0 < xs.length
    · have hne : xs.getD 0 0 ≠ 0 := fun e => h ⟨hpos, e⟩
      have h1 : xs.getD 0 0 = 1 := (hall 0 hpos).resolve_left hne
      obtain ⟨b, off, rfl, hc⟩ := hv.2 0 hpos
      have hpos' : (0 : Int) < (xs.length : Int) := by omega
      rw [h1, Nat.add_zero] at hc
      clear hv hall h hnum h1 hne HP
      generalize num (pad xs) 0 xs.length = N at *
      generalize xs.length = n at *
      generalize (2 : Int) ^ n = P at *
      have hnn : ((n : Int) != (n : Int)) = false := by simp
      go_enter Try.func98, Try.ntmps98
      go_wp2_with (first
        | (go_at_call 51; refine HS.out.mono ?_; rintro e w1 ⟨rfl, rfl⟩)
        | (go_at_call 52; refine HB.out.mono ?_; rintro e w1 ⟨rfl, rfl⟩)
        | (go_at_call 112; refine HN.out.mono ?_; rintro e w1 ⟨rfl, rfl⟩))
      go_ret2
      exact ⟨ret_ib (by rw [hf.out]), rfl⟩
    · have hz : xs.length = 0 := by omega
      clear hv hall h hnum HP
      generalize num (pad xs) 0 xs.length = N at *
      generalize xs.length = n at *
      subst hz
      go_enter Try.func98, Try.ntmps98
      go_wp2_with (first
        | (go_at_call 51; refine HS.out.mono ?_; rintro e w1 ⟨rfl, rfl⟩)
        | (go_at_call 52; refine HB.out.mono ?_; rintro e w1 ⟨rfl, rfl⟩)
        | (go_at_call 112; refine HN.out.mono ?_; rintro e w1 ⟨rfl, rfl⟩))
      go_ret2
      exact ⟨ret_ib (by rw [hf.out]), rfl⟩

set_option maxHeartbeats 1600000 in
theorem spec_from_no (ao : Option Addr) (cap : Nat) (n : Int) (xs : List Int) (w : World) (hl : xs.length ≤ 1048576) (hv : View .i64 w ao xs.length xs) (hbad : ¬ GoodRest n xs) :
    Calls Try.prog 98 #[.int .i64 n, .slice ao xs.length cap] w fun e w' => e = .returned (.tuple #[.int .i64 0, .bool false]) ∧ w = w' := by
  have HS := hid (spec_in n 0 11 w)
  by_cases a1 : 0 ≤ n ∧ n ≤ 11
  · rw [show decide ((0 : Int) ≤ n ∧ n ≤ 11) = true by simpa using a1] at HS
    by_cases a3 : (xs.length : Int) = n
    · have a4 : ¬ AllBits xs := fun h => hbad ⟨a1, a3, h⟩
      have HB := hid (specBits_no ao xs.length cap xs w (by omega) hv a4)
      subst a3
      have hnn : ((xs.length : Int) != (xs.length : Int)) = false := by simp
      clear hbad a4 hv a1
      go_enter Try.func98, Try.ntmps98
      go_wp2_with (first
        | (go_at_call 51; refine HS.out.mono ?_; rintro e w1 ⟨rfl, rfl⟩)
        | (go_at_call 52; refine HB.out.mono ?_; rintro e w1 ⟨rfl, rfl⟩))
      go_ret2
      exact ⟨rfl, rfl⟩
    · have hnn : ((xs.length : Int) != n) = true := by simpa using a3
      clear hbad hv a3 a1
      go_enter Try.func98, Try.ntmps98
      go_wp2_with (go_at_call 51; refine HS.out.mono ?_; rintro e w1 ⟨rfl, rfl⟩)
      go_ret2
      exact ⟨rfl, rfl⟩
  · rw [show decide ((0 : Int) ≤ n ∧ n ≤ 11) = false by simpa using a1] at HS
    clear hbad hv a1
    go_enter Try.func98, Try.ntmps98
    go_wp2_with (go_at_call 51; refine HS.out.mono ?_; rintro e w1 ⟨rfl, rfl⟩)
    go_ret2
    exact ⟨rfl, rfl⟩

theorem both_from (n : Int) (xs : List Int) (hl : xs.length ≤ 1048576) : ∃ (r : Int) (b : Bool),
    (∀ ao cap w, View .i64 w ao xs.length xs → Calls Try.prog 98 #[.int .i64 n, .slice ao xs.length cap] w fun e w' => e = .returned (.tuple #[.int .i64 r, .bool b]) ∧ w = w') ∧
    (∀ ao cap w, View .i64 w ao xs.length xs → Calls Try.prog 103 #[.int .i64 n, .slice ao xs.length cap] w fun e w' => e = .returned (.tuple #[.int .i64 r, .bool b]) ∧ Below w.heap.size w w') := by
  by_cases h : GoodRest n xs
  · obtain ⟨h1, h2, h3⟩ := h
    subst h2
    exact ⟨frv xs, true, fun ao cap w hv => spec_from ao cap xs w (by omega) hv h3, fun ao cap w hv => impl_from ao cap xs w (by omega) hv h3⟩
  · exact ⟨0, false, fun ao cap w hv => spec_from_no ao cap n xs w hl hv h, fun ao cap w hv => impl_from_no ao cap n xs w hl hv h⟩

end Go.Proofs.Ytcikmgdfelejpaa

/- Plain facts: a number comes back from its size and its rest, and bits come back from the number that they are the rest of. -/
namespace Go.Proofs.Ytcikmgdfelejpaa
open Go.RowKit
set_option linter.unusedVariables false

theorem num_congr (f g : Nat → Int) (s : Nat) : ∀ c, (∀ j, j < c → f (s + j) = g (s + j)) → num f s c = num g s c
  | 0, _ => rfl
  | c + 1, h => by rw [num, num, num_congr f g s c (fun j hj => h j (by omega)), h c (by omega)]
theorem num_back (x : Int) (k : Nat) (h0 : 0 ≤ x) (h1 : x < 2 ^ k) : num (pad (bl (rbX x k) k)) 0 k = x := by
  rw [num_congr _ (rbX x k) 0 k, rbX_num x k h0 h1 k (Nat.le_refl _), Nat.sub_self]
  · simp
  · intro j hj
    rw [Nat.zero_add, pad_in _ _ (by rw [bl_length]; exact hj), bl_get _ _ _ hj]
theorem bits_of_num (b : Nat → Int) (hb : ∀ j, Bit (b j)) (n j : Nat) (hj : j < n) : num b 0 n / 2 ^ (n - 1 - j) % 2 = b j := by
  have h := num_split b 0 (j + 1) (n - 1 - j)
  rw [show j + 1 + (n - 1 - j) = n by omega] at h
  have hbd := num_bd b hb (0 + (j + 1)) (n - 1 - j)
  have hp : (0 : Int) < 2 ^ (n - 1 - j) := Int.pow_pos (by decide)
  rw [h, Int.add_comm, Int.add_mul_ediv_right _ _ (by omega), Int.ediv_eq_zero_of_lt hbd.1 hbd.2, num, Nat.zero_add]
  have := hb j
  unfold Bit at this
  omega
theorem bitLen_is (m n : Nat) (hn : 1 ≤ n) (hn2 : n ≤ 11) (h0 : (2 : Int) ^ (n - 1) ≤ m) (h1 : (m : Int) < 2 ^ n) : Lib.bitLen m = n := by
  have hm : m ≤ 2047 := by
    have := (pow_small n hn2).2
    omega
  have a1 := (bitLen_at m (n - 1) hm (by omega)).1.1 (by exact_mod_cast h0)
  have a2 : ¬ n < Lib.bitLen m := fun e => by
    have h2 := (bitLen_at m n hm hn2).1.2 e
    have h3 : m < 2 ^ n := by exact_mod_cast h1
    omega
  omega
theorem pow_pred (n : Nat) (hn : 1 ≤ n) : (2 : Int) ^ n = 2 * 2 ^ (n - 1) := by
  obtain ⟨k, rfl⟩ : ∃ k, n = k + 1 := ⟨n - 1, by omega⟩
  rw [Int.pow_succ, Nat.add_sub_cancel]
  omega
theorem pad_bl (xs : List Int) : xs = bl (pad xs) xs.length := by
  refine list_eq_of_getD (by rw [bl_length]) fun i hi => ?_
  rw [bl_get _ _ _ hi, pad_in _ _ hi]
theorem bl_congr (f g : Nat → Int) : ∀ n, (∀ j, j < n → f j = g j) → bl f n = bl g n
  | 0, _ => rfl
  | n + 1, h => by rw [bl, bl, bl_congr f g n (fun j hj => h j (by omega)), h n (by omega)]
theorem bits_back (xs : List Int) (h : AllBits xs) : bl (rbX (num (pad xs) 0 xs.length) xs.length) xs.length = xs := by
  rw [bl_congr _ (pad xs) xs.length (fun j hj => by rw [rbX]; exact bits_of_num (pad xs) (pad_bit xs h) xs.length j hj)]
  exact (pad_bl xs).symm

/-- Bits that are a rest: the number has their size, and they are its rest. -/
theorem from_back (xs : List Int) (h : AllBits xs) (h1 : 1 ≤ xs.length) (h2 : xs.length ≤ 11) : (-2047 ≤ frv xs ∧ frv xs ≤ 2047) ∧ sz (frv xs) = xs.length ∧ restL (frv xs) = xs := by
  have hN := num_bd (pad xs) (pad_bit xs h) 0 xs.length
  have hf := bits_of_num (pad xs) (pad_bit xs h) xs.length 0 (by omega)
  rw [pad_in xs 0 (by omega), Nat.sub_zero] at hf
  have hbk := bits_back xs h
  have hps := pow_small xs.length h2
  have hpp := pow_pred xs.length h1
  have hp1 : (1 : Int) ≤ 2 ^ (xs.length - 1) := (pow_small (xs.length - 1) (by omega)).1
  have hbit := h 0 (by omega)
  have hB := fun m => bitLen_is m xs.length h1 h2
  by_cases hz : xs.getD 0 0 = 0
  · have hv := frv_low (xs := xs) ⟨by omega, hz⟩
    rw [hz] at hf
    have hlow : num (pad xs) 0 xs.length < 2 ^ (xs.length - 1) := by
      rw [hpp] at hN
      generalize num (pad xs) 0 xs.length = N at *
      generalize hP : (2 : Int) ^ (xs.length - 1) = P at *
      have hq : N / P < 2 := Int.ediv_lt_of_lt_mul (by omega) (by omega)
      have hq0 : 0 ≤ N / P := Int.ediv_nonneg hN.1 (by omega)
      have : N / P = 0 := by omega
      have hm := Int.emod_add_mul_ediv N P
      have hl := Int.emod_lt_of_pos N (show 0 < P by omega)
      rw [this] at hm
      omega
    have hlen : Lib.bitLen (frv xs).natAbs = xs.length := hB _ (by rw [hv]; omega) (by rw [hv]; omega)
    have hin : -2047 ≤ frv xs ∧ frv xs ≤ 2047 := by rw [hv]; omega
    refine ⟨hin, by rw [sz_in hin, hlen], ?_⟩
    rw [rest_in hin, hlen]
    have hr : restN (frv xs) = num (pad xs) 0 xs.length := by
      unfold restN
      rw [hlen, if_pos (by rw [hv]; omega), hv]
      omega
    rw [hr]
    exact hbk
  · have hv := frv_high (xs := xs) (fun e => hz e.2)
    have h1' : xs.getD 0 0 = 1 := hbit.resolve_left hz
    rw [h1'] at hf
    have hhigh : (2 : Int) ^ (xs.length - 1) ≤ num (pad xs) 0 xs.length := by
      generalize num (pad xs) 0 xs.length = N at *
      generalize hP : (2 : Int) ^ (xs.length - 1) = P at *
      by_cases hlt : N < P
      · rw [Int.ediv_eq_zero_of_lt hN.1 hlt] at hf
        omega
      · omega
    have hlen : Lib.bitLen (frv xs).natAbs = xs.length := hB _ (by rw [hv]; omega) (by rw [hv]; omega)
    have hin : -2047 ≤ frv xs ∧ frv xs ≤ 2047 := by rw [hv]; omega
    refine ⟨hin, by rw [sz_in hin, hlen], ?_⟩
    rw [rest_in hin, hlen]
    have hr : restN (frv xs) = num (pad xs) 0 xs.length := by
      unfold restN
      rw [if_neg (by rw [hv]; omega), hv]
    rw [hr]
    exact hbk

/-- The rest of a number is bits, as many as its size, and the number comes back. -/
theorem rest_back (x : Int) (h : -2047 ≤ x ∧ x ≤ 2047) : AllBits (restL x) ∧ ((restL x).length : Int) = sz x ∧ frv (restL x) = x := by
  have hl := (bitLen_at x.natAbs 0 (by omega) (by omega)).2
  have hb := restN_bd h
  have hall : AllBits (restL x) := by
    rw [rest_in h]
    intro j hj
    rw [bl_length] at hj
    rw [bl_get _ _ _ hj]
    exact rbX_bit _ _ _
  have hlen : (restL x).length = Lib.bitLen x.natAbs := by rw [rest_in h, bl_length]
  refine ⟨hall, by rw [hlen, sz_in h], ?_⟩
  have hnum : num (pad (restL x)) 0 (restL x).length = restN x := by
    rw [hlen, rest_in h]
    exact num_back _ _ hb.1 hb.2
  by_cases h0 : x = 0
  · subst h0
    rfl
  · have hbl := fun c hc => (bitLen_at x.natAbs c (by omega) hc).1
    have hn1 : 1 ≤ Lib.bitLen x.natAbs := by
      have := (hbl 0 (by omega)).1 (by simp; omega)
      omega
    have hge : (2 : Int) ^ (Lib.bitLen x.natAbs - 1) ≤ x.natAbs := by
      have := (hbl (Lib.bitLen x.natAbs - 1) (by omega)).2 (by omega)
      exact_mod_cast this
    have hpp := pow_pred (Lib.bitLen x.natAbs) hn1
    have hp1 : (1 : Int) ≤ 2 ^ (Lib.bitLen x.natAbs - 1) := (pow_small _ (by omega)).1
    have hfirst : (restL x).getD 0 0 = restN x / 2 ^ (Lib.bitLen x.natAbs - 1) % 2 := by
      rw [rest_in h, bl_get _ _ _ (by omega), rbX, Nat.sub_zero]
    by_cases hneg : x < 0
    · have hr : restN x = x + 2 ^ Lib.bitLen x.natAbs - 1 := by unfold restN; rw [if_pos hneg]
      have hz : (restL x).getD 0 0 = 0 := by
        rw [hfirst, Int.ediv_eq_zero_of_lt hb.1 (by rw [hr, hpp]; omega)]
        rfl
      rw [frv_low ⟨by omega, hz⟩, hnum, hr, hlen]
      omega
    · have hr : restN x = x := by unfold restN; rw [if_neg hneg]
      have hz : (restL x).getD 0 0 = 1 := by
        rw [hfirst, hr]
        rw [hr] at hb
        generalize hP : (2 : Int) ^ (Lib.bitLen x.natAbs - 1) = P at *
        have e1 : x / P = 1 := by
          have hq : x / P < 2 := Int.ediv_lt_of_lt_mul (by omega) (by omega)
          have hq2 : 1 ≤ x / P := (Int.le_ediv_iff_mul_le (by omega)).2 (by omega)
          omega
        rw [e1]
        rfl
      rw [frv_high (fun e => by rw [hz] at e; exact absurd e.2 (by decide)), hnum, hr]
theorem sz_neg (x : Int) (h : -2047 ≤ x ∧ x ≤ 2047) : sz (-x) = sz x := by
  rw [sz_in h, sz_in (by omega), show (-x).natAbs = x.natAbs by omega]
end Go.Proofs.Ytcikmgdfelejpaa

/- Plain facts on steps that are read: the reader of the program takes just the steps that the specification takes. -/
namespace Go.Proofs.Ytcikmgdfelejpaa
open Go.RowKit
set_option linter.unusedVariables false

/-- Whether bits are a rest can be decided. -/
def decGood (n : Int) (xs : List Int) : Decidable (GoodRest n xs) :=
  decidable_of_iff ((0 ≤ n ∧ n ≤ 11) ∧ (xs.length : Int) = n ∧ ∀ j, j < xs.length → xs.getD j 0 = 0 ∨ xs.getD j 0 = 1) Iff.rfl
/-- The program's reader takes a step: the numbers so far, and whether the last step was a skip. -/
def takeR (st : List Int × Bool) (s : Int × Int × List Int) : Option (List Int × Bool) :=
  haveI := decGood s.2.1 s.2.2
  if ¬ GoodRest s.2.1 s.2.2 ∨ st.1.length = 63 then none
  else if s.1 < 0 ∨ 15 < s.1 ∨ 10 < s.2.1 then none
  else if 0 < s.2.1 then (if (st.1.length : Int) + s.1 < 63 then some (st.1 ++ List.replicate s.1.toNat 0 ++ [frv s.2.2], false) else none)
  else if s.1 = 15 then (if st.1.length + 16 < 63 then some (st.1 ++ List.replicate 16 0, true) else none)
  else if s.1 = 0 then (if st.2 = true then none else some (st.1 ++ List.replicate (63 - st.1.length) 0, false))
  else none
/-- The reader after the first k steps. -/
def readTo (L : List (Int × Int × List Int)) : Nat → Option (List Int × Bool)
  | 0 => some ([], false)
  | k + 1 => (readTo L k).bind fun st => takeR st (nthS L k)
/-- What the program reads. -/
def fromR (dc : Int) (L : List (Int × Int × List Int)) : Option (List Int) :=
  if inC dc = true then (readTo L L.length).bind fun st => if st.1.length = 63 then some st.1 else none else none
/-- The specification reads a step. -/
def acStep (o : List Int) (s : Int × Int × List Int) : List Int :=
  haveI := decGood s.2.1 s.2.2
  if 64 ≤ o.length then o
  else if GoodRest s.2.1 s.2.2 ∧ (0 < s.2.1 ∨ s.1 = 15) then o ++ List.replicate (min s.1.toNat (64 - o.length)) 0 ++ [frv s.2.2]
  else o ++ List.replicate (min s.1.toNat (64 - o.length)) 0
/-- The numbers that the specification reads from the first k steps. -/
def acTo (L : List (Int × Int × List Int)) : Nat → List Int
  | 0 => []
  | k + 1 => acStep (acTo L k) (nthS L k)
def acOf (L : List (Int × Int × List Int)) : List Int := acTo L L.length ++ List.replicate (63 - (acTo L L.length).length) 0

theorem getD_of_take {xs ac : List Int} (h : xs.take ac.length = ac) (i : Nat) (hi : i < ac.length) : xs.getD i 0 = ac.getD i 0 := by
  rw [← h]
  simp [List.getD, List.getElem?_take] at *
  have : i < ac.length := hi
  simp [this]
theorem take_prefix {xs a b : List Int} (h : xs.take (a ++ b).length = a ++ b) : xs.take a.length = a := by
  have := congrArg (List.take a.length) h
  rw [List.take_take, List.take_left', List.length_append, Nat.min_eq_left (by omega)] at this
  · exact this
  · rfl
theorem getD_zeros (a : List Int) (n i : Nat) : (a ++ List.replicate n (0 : Int)).getD (a.length + i) 0 = 0 := by
  simp only [List.getD]
  rw [List.getElem?_append_right (by omega), Nat.add_sub_cancel_left, List.getElem?_replicate]
  split <;> rfl
theorem stepTo_zeros (xs : List Int) (n : Nat) : ∀ r, (∀ i, i < r → xs.getD (n + i) 0 = 0) → stepTo xs (n + r) = ((stepTo xs n).1, (stepTo xs n).2 + r)
  | 0, _ => rfl
  | r + 1, h => by
    rw [← Nat.add_assoc, stepTo_zero xs (n + r) (h r (by omega)), stepTo_zeros xs n r (fun i hi => h i (by omega))]
    simp [Nat.add_assoc]
theorem take_snoc (L : List (Int × Int × List Int)) (k : Nat) (h : k < L.length) : L.take (k + 1) = L.take k ++ [nthS L k] := by
  rw [List.take_succ_eq_append_getElem h]
  simp [nthS, List.getD, h]
theorem inC_of (x : Int) (h : -1023 ≤ x ∧ x ≤ 1023) : inC x = true := by simpa [inC] using h
theorem sz_small (x : Int) (h : -2047 ≤ x ∧ x ≤ 2047) : sz x ≤ 10 ↔ -1023 ≤ x ∧ x ≤ 1023 := by
  rw [sz_in h]
  have := (bitLen_at x.natAbs 10 (by omega) (by omega)).1
  have h2 := (bitLen_at x.natAbs 10 (by omega) (by omega)).2
  rw [show (2 : Nat) ^ 10 = 1024 by decide] at this
  omega
theorem sz_pos (x : Int) (h : -2047 ≤ x ∧ x ≤ 2047) : 0 < sz x ↔ x ≠ 0 := by
  rw [sz_in h]
  have := (bitLen_at x.natAbs 0 (by omega) (by omega)).1
  rw [show (2 : Nat) ^ 0 = 1 by decide] at this
  omega
theorem goodNil : GoodRest 0 [] := ⟨by decide, rfl, fun j hj => by simp at hj⟩
theorem frvNil : frv [] = 0 := by simp [frv, num]
theorem good_nil {xs : List Int} (h : GoodRest 0 xs) : xs = [] := List.length_eq_zero_iff.1 (by have := h.2.1; omega)
/-- A rest of n bits, n from 1 to 10, is that of the number. -/
theorem good_num {n : Int} {xs : List Int} (h : GoodRest n xs) (h0 : 0 < n) (h1 : n ≤ 10) : sz (frv xs) = n ∧ restL (frv xs) = xs ∧ frv xs ≠ 0 ∧ -1023 ≤ frv xs ∧ frv xs ≤ 1023 := by
  obtain ⟨hn, hl, hall⟩ := h
  obtain ⟨hin, hs, hr⟩ := from_back xs hall (by omega) (by omega)
  have hs' : sz (frv xs) = n := by rw [hs]; exact hl
  exact ⟨hs', hr, (sz_pos _ hin).1 (by omega), (sz_small _ hin).1 (by omega)⟩

/-- What stands behind k steps that the program took. -/
def OpenI (L : List (Int × Int × List Int)) (k : Nat) (ac : List Int) (sk : Bool) : Prop :=
  acTo L k = ac ∧ ac.length ≤ 63 ∧ (∀ x ∈ ac, -1023 ≤ x ∧ x ≤ 1023) ∧ ∃ (S : List (Int × Int × List Int)) (m : Nat), L.take k = S ++ List.replicate m skip ∧ (∀ xs : List Int, xs.take ac.length = ac → stepTo xs ac.length = (S, 16 * m)) ∧ (sk = false → m = 0) ∧ (ac.length = 63 → m = 0)
def ShutI (L : List (Int × Int × List Int)) (k : Nat) (ac : List Int) : Prop :=
  ac.length = 63 ∧ ac = acTo L k ++ List.replicate (63 - (acTo L k).length) 0 ∧ (∀ x ∈ ac, -1023 ≤ x ∧ x ≤ 1023) ∧ stepsOf ac = L.take k

theorem take_inv (L : List (Int × Int × List Int)) : ∀ k ac sk, k ≤ L.length → readTo L k = some (ac, sk) → OpenI L k ac sk ∨ ShutI L k ac
  | 0, ac, sk, _, h => by
    simp only [readTo, Option.some.injEq, Prod.mk.injEq] at h
    obtain ⟨rfl, rfl⟩ := h
    exact .inl ⟨rfl, by simp, by simp, [], 0, rfl, fun xs _ => rfl, fun _ => rfl, fun _ => rfl⟩
  | k + 1, ac, sk, hk, h => by
    rw [readTo] at h
    obtain ⟨⟨a0, s0⟩, h1, h2⟩ := Option.bind_eq_some_iff.1 h
    have ih := take_inv L k a0 s0 (by omega) h1
    have ht := take_snoc L k (by omega)
    have hac : acTo L (k + 1) = acStep (acTo L k) (nthS L k) := rfl
    generalize nthS L k = s at *
    obtain ⟨r, n, bits⟩ := s
    unfold takeR at h2
    unfold acStep at hac
    simp only at h2 hac
    split at h2
    · cases h2
    rename_i hc1
    have hgood : GoodRest n bits := Classical.not_not.1 fun e => hc1 (.inl e)
    have hne : a0.length ≠ 63 := fun e => hc1 (.inr e)
    rcases ih with ⟨i1, i2, i3, S, m, i4, i5, i6, i7⟩ | ⟨i1, _⟩
    · rw [i1] at hac
      rw [if_neg (by omega)] at hac
      split at h2
      · cases h2
      rename_i hc2
      by_cases hn : 0 < n
      · rw [if_pos hn] at h2
        obtain ⟨g1, g2, g3, g4⟩ := good_num hgood hn (by omega)
        split at h2
        · rename_i hroom
          simp only [Option.some.injEq, Prod.mk.injEq] at h2
          obtain ⟨rfl, rfl⟩ := h2
          obtain ⟨q, rfl⟩ : ∃ q : Nat, r = q := ⟨r.toNat, by omega⟩
          simp only [Int.toNat_natCast] at *
          rw [if_pos ⟨hgood, .inl hn⟩, Nat.min_eq_left (by omega)] at hac
          refine .inl ⟨hac, by simp; omega, ?_, S ++ List.replicate m skip ++ [((q : Int), n, bits)], 0, by rw [ht, i4]; simp, fun xs hx => ?_, fun _ => rfl, fun _ => rfl⟩
          · intro x hx
            simp only [List.mem_append, List.mem_singleton] at hx
            rcases hx with (hx | hx) | hx
            · exact i3 x hx
            · rw [(List.mem_replicate.1 hx).2]; omega
            · rw [hx]; exact g4
          · have hx1 : xs.take (a0 ++ List.replicate q 0).length = a0 ++ List.replicate q 0 := take_prefix hx
            have hx0 : xs.take a0.length = a0 := take_prefix hx1
            have hz : ∀ i, i < q → xs.getD (a0.length + i) 0 = 0 := fun i hi => by
              rw [getD_of_take hx1 _ (by simp; omega)]
              exact getD_zeros a0 q i
            have hl : xs.getD (a0.length + q) 0 = frv bits := by
              rw [getD_of_take hx _ (by simp)]
              simp only [List.getD]
              rw [List.getElem?_append_right (by simp)]
              simp
            have e1 := stepTo_zeros xs a0.length q hz
            rw [i5 xs hx0] at e1
            have e2 := stepTo_num xs (a0.length + q) (by rw [hl]; exact g3)
            rw [e1, hl, g1, g2] at e2
            have hlen9 : (a0 ++ List.replicate q (0 : Int) ++ [frv bits]).length = a0.length + q + 1 := by simp [Nat.add_assoc]
            rw [hlen9, e2]
            have d1 : (16 * m + q) / 16 = m := by omega
            have d2 : (16 * m + q) % 16 = q := by omega
            simp only [d1, d2, Nat.mul_zero]
        · cases h2
      · have hn0 : n = 0 := by have := hgood.1; omega
        subst hn0
        have hbn := good_nil hgood
        subst hbn
        rw [if_neg hn] at h2
        by_cases hr : r = 15
        · subst hr
          rw [if_pos rfl] at h2
          split at h2
          · rename_i hroom
            simp only [Option.some.injEq, Prod.mk.injEq] at h2
            obtain ⟨rfl, rfl⟩ := h2
            rw [if_pos ⟨hgood, .inr rfl⟩, frvNil, show min (Int.toNat 15) (64 - a0.length) = 15 by show min 15 (64 - a0.length) = 15; omega] at hac
            refine .inl ⟨?_, by simp; omega, ?_, S, m + 1, by rw [ht, i4, List.replicate_succ', List.append_assoc]; rfl, fun xs hx => ?_, (fun e => by cases e), (fun e => by simp only [List.length_append, List.length_replicate] at e; omega)⟩
            · rw [hac, List.append_assoc, ← List.replicate_succ']
            · intro x hx
              simp only [List.mem_append] at hx
              rcases hx with hx | hx
              · exact i3 x hx
              · rw [(List.mem_replicate.1 hx).2]; omega
            · have hx0 : xs.take a0.length = a0 := take_prefix hx
              have hz : ∀ i, i < 16 → xs.getD (a0.length + i) 0 = 0 := fun i hi => by
                rw [getD_of_take hx _ (by simp; omega)]
                exact getD_zeros a0 16 i
              have e1 := stepTo_zeros xs a0.length 16 hz
              rw [i5 xs hx0] at e1
              rw [show (a0 ++ List.replicate 16 (0 : Int)).length = a0.length + 16 by simp, e1]
              simp only [Nat.mul_add, Nat.mul_one]
          · cases h2
        · rw [if_neg hr] at h2
          by_cases hr0 : r = 0
          · subst hr0
            rw [if_pos rfl] at h2
            split at h2
            · cases h2
            · rename_i hsk
              simp only [Option.some.injEq, Prod.mk.injEq] at h2
              obtain ⟨rfl, rfl⟩ := h2
              have hm : m = 0 := i6 (by simpa using hsk)
              subst hm
              rw [if_neg (by omega), show min (Int.toNat 0) (64 - a0.length) = 0 by simp] at hac
              have hac' : acTo L (k + 1) = a0 := by rw [hac]; simp
              have hlen : (a0 ++ List.replicate (63 - a0.length) (0 : Int)).length = 63 := by simp; omega
              refine .inr ⟨hlen, by rw [hac'], ?_, ?_⟩
              · intro x hx
                simp only [List.mem_append] at hx
                rcases hx with hx | hx
                · exact i3 x hx
                · rw [(List.mem_replicate.1 hx).2]; omega
              · have hx0 : (a0 ++ List.replicate (63 - a0.length) (0 : Int)).take a0.length = a0 := by simp
                have hz : ∀ i, i < 63 - a0.length → (a0 ++ List.replicate (63 - a0.length) (0 : Int)).getD (a0.length + i) 0 = 0 := fun i _ => getD_zeros a0 _ i
                have e1 := stepTo_zeros _ a0.length (63 - a0.length) hz
                rw [i5 _ hx0, show a0.length + (63 - a0.length) = 63 by omega] at e1
                unfold stepsOf
                rw [e1, if_pos (by show 0 < 16 * 0 + (63 - a0.length); omega), ht, i4]
                simp
          · rw [if_neg hr0] at h2
            cases h2
    · exact absurd i1 hne

/-- What the program takes, the specification takes, and they read the same. -/
theorem from_spec (dc : Int) (L : List (Int × Int × List Int)) (ac : List Int) (h : fromR dc L = some ac) : acOf L = ac ∧ blkOk dc ac = true ∧ stepsR dc ac = L := by
  unfold fromR at h
  split at h
  · rename_i hdc
    obtain ⟨⟨a0, s0⟩, h1, h2⟩ := Option.bind_eq_some_iff.1 h
    simp only at h2
    split at h2
    · rename_i hlen
      simp only [Option.some.injEq] at h2
      subst h2
      have hcoef : ∀ ac : List Int, ac.length = 63 → (∀ x ∈ ac, -1023 ≤ x ∧ x ≤ 1023) → blkOk dc ac = true := by
        intro ac hl hall
        unfold blkOk
        rw [hdc, Bool.true_and]
        simp only [hl, decide_true, Bool.true_and]
        have : ∀ k, k ≤ 63 → coefTo ac k = true := by
          intro k
          induction k with
          | zero => intro _; rfl
          | succ k ih =>
            intro hk
            rw [coefTo, ih (by omega), Bool.true_and]
            refine inC_of _ (hall _ ?_)
            simp only [List.getD]
            rw [List.getElem?_eq_getElem (by omega)]
            exact List.getElem_mem _
        exact this 63 (Nat.le_refl _)
      rcases take_inv L L.length a0 s0 (Nat.le_refl _) h1 with ⟨i1, i2, i3, S, m, i4, i5, i6, i7⟩ | ⟨i1, i2, i3, i4⟩
      · have hb := hcoef a0 hlen i3
        refine ⟨by unfold acOf; rw [i1, hlen]; simp, hb, ?_⟩
        have hm := i7 hlen
        subst hm
        have e := i5 a0 (by simp)
        rw [hlen] at e
        unfold stepsR stepsOf
        rw [if_pos hb, e, if_neg (by show ¬ 0 < 16 * 0; omega)]
        simp only [List.take_length, List.replicate_zero, List.append_nil] at i4
        exact i4.symm
      · have hb := hcoef a0 i1 i3
        refine ⟨by unfold acOf; exact i2.symm, hb, ?_⟩
        unfold stepsR
        rw [if_pos hb, i4, List.take_length]
    · cases h2
  · cases h

theorem readTo_left (S : List (Int × Int × List Int)) (x : Int × Int × List Int) : ∀ k, k ≤ S.length → readTo (S ++ [x]) k = readTo S k
  | 0, _ => rfl
  | k + 1, h => by rw [readTo, readTo, readTo_left S x k (by omega), nthS_left S x k (by omega)]
theorem read_snoc (S : List (Int × Int × List Int)) (x : Int × Int × List Int) : readTo (S ++ [x]) (S ++ [x]).length = (readTo S S.length).bind fun st => takeR st x := by
  rw [List.length_append, List.length_singleton, readTo, readTo_left S x _ (Nat.le_refl _), nthS_last]
theorem takeR_skip (ac : List Int) (sk : Bool) (h : ac.length + 16 < 63) : takeR (ac, sk) skip = some (ac ++ List.replicate 16 0, true) := by
  unfold takeR skip
  rw [if_neg (by rintro (e | e); exact e goodNil; simp only at e; omega), if_neg (by simp), if_neg (by simp), if_pos rfl, if_pos h]
theorem takeR_end (ac : List Int) (h : ac.length < 63) : takeR (ac, false) (0, 0, []) = some (ac ++ List.replicate (63 - ac.length) 0, false) := by
  unfold takeR
  rw [if_neg (by rintro (e | e); exact e goodNil; simp only at e; omega), if_neg (by simp), if_neg (by simp), if_neg (by simp), if_pos rfl, if_neg (by simp)]
theorem takeR_num (ac : List Int) (sk : Bool) (r : Nat) (x : Int) (hr : r < 16) (hx : x ≠ 0) (h0 : -1023 ≤ x ∧ x ≤ 1023) (h : ac.length + r < 63) : takeR (ac, sk) ((r : Int), sz x, restL x) = some (ac ++ List.replicate r 0 ++ [x], false) := by
  have hin : -2047 ≤ x ∧ x ≤ 2047 := by omega
  obtain ⟨b1, b2, b3⟩ := rest_back x hin
  have s1 := (sz_small x hin).2 h0
  have s2 := (sz_pos x hin).2 hx
  have hg : GoodRest (sz x) (restL x) := ⟨by omega, b2, b1⟩
  unfold takeR
  rw [if_neg (by rintro (e | e); exact e hg; simp only at e; omega), if_neg (by simp only; omega), if_pos s2, if_pos (by simp only; omega)]
  simp only [Int.toNat_natCast, b3]
theorem take_zeros (xs : List Int) (n r : Nat) (hn : n + r ≤ xs.length) (h : ∀ i, i < r → xs.getD (n + i) 0 = 0) : xs.take n ++ List.replicate r 0 = xs.take (n + r) := by
  refine list_eq_of_getD (by simp; omega) fun i hi => ?_
  simp only [List.length_append, List.length_take, List.length_replicate] at hi
  by_cases e : i < n
  · simp only [List.getD]
    rw [List.getElem?_append_left (by simp; omega), List.getElem?_take, List.getElem?_take, if_pos e, if_pos (by omega)]
  · have hl : (xs.take n).length = n := by simp; omega
    have := getD_zeros (xs.take n) r (i - n)
    rw [hl, show n + (i - n) = i by omega] at this
    rw [this]
    have h2 := h (i - n) (by omega)
    rw [show n + (i - n) = i by omega] at h2
    simp only [List.getD] at h2 ⊢
    rw [List.getElem?_take, if_pos (by omega)]
    exact h2.symm

/-- The steps of a right block are read, and give the block. -/
theorem read_steps (xs : List Int) (hl : xs.length = 63) (hin : ∀ k, k < 63 → -1023 ≤ xs.getD k 0 ∧ xs.getD k 0 ≤ 1023) : ∀ k, k ≤ 63 →
    readTo (stepTo xs k).1 (stepTo xs k).1.length = some (xs.take (k - (stepTo xs k).2), false) ∧ (stepTo xs k).2 ≤ k ∧ ∀ i, i < (stepTo xs k).2 → xs.getD (k - (stepTo xs k).2 + i) 0 = 0
  | 0, _ => ⟨by simp [stepTo, readTo], by simp [stepTo], fun i hi => by simp [stepTo] at hi⟩
  | k + 1, hk => by
    obtain ⟨h1, h2, h3⟩ := read_steps xs hl hin k (by omega)
    by_cases hz : xs.getD k 0 = 0
    · rw [stepTo_zero xs k hz]
      generalize (stepTo xs k).1 = S at *
      generalize (stepTo xs k).2 = r at *
      simp only
      rw [show k + 1 - (r + 1) = k - r by omega]
      refine ⟨h1, by omega, fun i hi => ?_⟩
      by_cases e : i < r
      · exact h3 i e
      · rw [show k - r + i = k by omega]; exact hz
    · rw [stepTo_num xs k hz]
      generalize (stepTo xs k).1 = S at *
      generalize (stepTo xs k).2 = r at *
      simp only
      refine ⟨?_, by omega, fun i hi => by omega⟩
      have hsk : ∀ j, 16 * j ≤ r → ∃ sk, readTo (S ++ List.replicate j skip) (S ++ List.replicate j skip).length = some (xs.take (k - r + 16 * j), sk) := by
        intro j
        induction j with
        | zero => intro _; exact ⟨false, by simpa using h1⟩
        | succ j ih =>
          intro hj
          obtain ⟨sk, e⟩ := ih (by omega)
          refine ⟨true, ?_⟩
          rw [List.replicate_succ', ← List.append_assoc, read_snoc, e]
          show takeR (xs.take (k - r + 16 * j), sk) skip = _
          rw [takeR_skip _ _ (by simp; omega), take_zeros xs (k - r + 16 * j) 16 (by omega) (fun i hi => by rw [Nat.add_assoc]; exact h3 _ (by omega)), show k - r + 16 * (j + 1) = k - r + 16 * j + 16 by omega]
      obtain ⟨sk, e⟩ := hsk (r / 16) (by omega)
      rw [read_snoc, e]
      show takeR (xs.take (k - r + 16 * (r / 16)), sk) _ = _
      have hlt : (xs.take (k - r + 16 * (r / 16))).length = k - r + 16 * (r / 16) := by simp; omega
      rw [takeR_num _ _ (r % 16) (xs.getD k 0) (by omega) hz (hin k (by omega)) (by rw [hlt]; omega), take_zeros xs (k - r + 16 * (r / 16)) (r % 16) (by omega) (fun i hi => by rw [Nat.add_assoc]; exact h3 _ (by omega)), show k - r + 16 * (r / 16) + r % 16 = k by omega, Nat.sub_zero, List.take_succ_eq_append_getElem (by omega)]
      simp [List.getD, show k < xs.length by omega]

/-- What the specification takes, the program takes. -/
theorem spec_from_ok (dc : Int) (L : List (Int × Int × List Int)) (xs : List Int) (hb : blkOk dc xs = true) (hs : stepsR dc xs = L) : fromR dc L = some xs := by
  unfold stepsR at hs
  rw [if_pos hb] at hs
  unfold blkOk at hb
  simp only [Bool.and_eq_true, decide_eq_true_eq] at hb
  obtain ⟨hdc, hl, hco⟩ := hb
  have hin : ∀ k, k < 63 → -1023 ≤ xs.getD k 0 ∧ xs.getD k 0 ≤ 1023 := fun k hk => by simpa [inC] using coefTo_at xs 63 hco k hk
  obtain ⟨h1, h2, h3⟩ := read_steps xs hl hin 63 (Nat.le_refl _)
  have hall : xs.take 63 = xs := by rw [← hl]; exact List.take_length
  unfold fromR
  rw [if_pos hdc, ← hs]
  unfold stepsOf
  generalize (stepTo xs 63).1 = S at *
  generalize (stepTo xs 63).2 = r at *
  by_cases hr : 0 < r
  · rw [if_pos hr, read_snoc, h1]
    show Option.bind (takeR (xs.take (63 - r), false) (0, 0, [])) _ = _
    have hlt : (xs.take (63 - r)).length = 63 - r := by simp; omega
    rw [takeR_end _ (by omega), hlt, take_zeros xs (63 - r) (63 - (63 - r)) (by omega) (fun i hi => h3 i (by omega)), show 63 - r + (63 - (63 - r)) = 63 by omega, hall]
    show (if xs.length = 63 then some xs else none) = some xs
    rw [if_pos hl]
  · rw [if_neg hr, h1]
    have : r = 0 := by omega
    subst this
    show (if (xs.take (63 - 0)).length = 63 then some (xs.take (63 - 0)) else none) = some xs
    rw [Nat.sub_zero, hall, if_pos hl]

/-- What the specification reads. -/
def specR (dc : Int) (L : List (Int × Int × List Int)) : Option (List Int) := if blkOk dc (acOf L) = true ∧ stepsR dc (acOf L) = L then some (acOf L) else none
theorem specR_eq (dc : Int) (L : List (Int × Int × List Int)) : specR dc L = fromR dc L := by
  unfold specR
  split
  · rename_i h
    exact (spec_from_ok dc L _ h.1 h.2).symm
  · rename_i h
    cases e : fromR dc L with
    | none => rfl
    | some ac =>
      obtain ⟨h1, h2, h3⟩ := from_spec dc L ac e
      exact absurd ⟨by rw [h1]; exact h2, by rw [h1]; exact h3⟩ h
end Go.Proofs.Ytcikmgdfelejpaa
