/- Mirror and Transpose of the program. -/
import Derived.Test.YtcodmkampihphaaDoorSg
import Derived.Deep.RegionWith
namespace Go.Proofs.YtcodmkampihphaaDoor
open Go.RowKit
set_option linter.unusedVariables false

/-- Numbers that a block may have. -/
def Bd (S : List Int) : Prop := ∀ i, -1023 ≤ S.getD i 0 ∧ S.getD i 0 ≤ 1023
theorem inC_iff (x : Int) : inC x = true ↔ -1023 ≤ x ∧ x ≤ 1023 := by unfold inC; simp
theorem Bd.set {S : List Int} (h : Bd S) (i : Nat) (x : Int) (hx : -1023 ≤ x ∧ x ≤ 1023) : Bd (S.set i x) := fun j => by
  by_cases e : i = j
  · subst e
    by_cases hl : i < S.length
    · rw [getD_set_self hl]; exact hx
    · rw [List.set_eq_of_length_le (by omega)]; exact h i
  · rw [getD_set_ne e]; exact h j
theorem blk_at {d : Int} {xs : List Int} (h : blkOk d xs = true) : (-1023 ≤ d ∧ d ≤ 1023) ∧ xs.length = 63 ∧ ∀ k, k < 63 → -1023 ≤ xs.getD k 0 ∧ xs.getD k 0 ≤ 1023 := by
  unfold blkOk at h
  simp only [Bool.and_eq_true, decide_eq_true_eq] at h
  exact ⟨(inC_iff d).1 h.1, h.2.1, fun k hk => (inC_iff _).1 (coefTo_at xs 63 h.2.2 k hk)⟩
theorem bd_d63 (d : Int) (h : -1023 ≤ d ∧ d ≤ 1023) : Bd (d63 d) := fun i => by
  unfold d63
  cases i with
  | zero => exact h
  | succ i =>
    have e : (d :: List.replicate 63 0).getD (i + 1) 0 = 0 := by
      simp only [List.getD, List.getElem?_cons_succ, List.getElem?_replicate]
      split <;> rfl
    rw [e]
    omega
theorem bd_sq {d : Int} {xs : List Int} (h : blkOk d xs = true) : ∀ k, k ≤ 63 → Bd (sqTo d xs k)
  | 0, _ => bd_d63 d (blk_at h).1
  | k + 1, hk => (bd_sq h k (by omega)).set _ _ ((blk_at h).2.2 k (by omega))
theorem bd_mir {S : List Int} (h : Bd S) : ∀ k, Bd (mirTo S k)
  | 0 => h
  | k + 1 => by
    rw [mirTo]
    split
    · have ih := bd_mir h k
      exact ih.set _ _ (by have := ih k; omega)
    · exact bd_mir h k
theorem bd_z : Bd z64 := fun i => by
  have e : z64.getD i 0 = 0 := by
    unfold z64
    simp only [List.getD, List.getElem?_replicate]
    split <;> rfl
  rw [e]
  omega
theorem bd_tr {S : List Int} (h : Bd S) : ∀ k, Bd (trTo S k)
  | 0 => bd_z
  | k + 1 => (bd_tr h k).set _ _ (h k)
theorem acTo_at (S : List Int) : ∀ n k, k < n → (acTo S n).getD k 0 = S.getD (zt.getD (k + 1) 0).toNat 0
  | n + 1, k, h => by
    rw [acTo]
    by_cases e : k = n
    · subst e
      simp [List.getD, acTo_len]
    · have hk : k < n := by omega
      have := acTo_at S n k hk
      rw [← this]
      simp [List.getD, List.getElem?_append, acTo_len, hk]
theorem coefAll (xs : List Int) : ∀ n, (∀ k, k < n → inC (xs.getD k 0) = true) → coefTo xs n = true
  | 0, _ => rfl
  | n + 1, h => by rw [coefTo, coefAll xs n (fun k hk => h k (by omega)), h n (by omega)]; rfl
theorem fcOk_bd {S : List Int} (h : Bd S) : fcOk S = true := by
  unfold fcOk blkOk
  rw [(inC_iff _).2 (h 0), decide_eq_true (acTo_len S 63), coefAll _ 63 (fun k hk => by rw [acTo_at S 63 k hk]; exact (inC_iff _).2 (h _))]
  rfl

/-- What stands while a turn is at work: the block that came in, the one that goes out. -/
def StT (w : World) (l r : List Value) (q : World) : Prop := Below w.heap.size w q ∧ Blk q w.heap.size l 28 ∧ Blk q (w.heap.size + 1) r 28
theorem StT.step {w q q' : World} {l r : List Value} (h : StT w l r q) (hb : Below q.heap.size q q') : StT w l r q' := ⟨h.1.trans (hb.mono h.1.size), h.2.1.below hb h.2.1.lt, h.2.2.below hb h.2.2.lt⟩
theorem StT.stepD {w q q' : World} {l r : List Value} (h : StT w l r q) (hb : Below q.heap.size q.drew q') : StT w l r q' := h.step (Below.trans (belowN (Below.refl _ _) 1) hb)

set_option maxRecDepth 20000 in
set_option maxHeartbeats 1600000 in
theorem impl_turned0 (d : Int) (xs : List Int) (a : Option Addr) (c : Nat) (w : World) (hok : blkOk d xs = true) (hv : View .i64 w a 63 xs) (hw : WayAt w) :
    Calls Tryd.prog 28 #[.agg #[.int .i64 d, .slice a 63 c], .int .i64 0] w fun e w' => ∃ v, e = .returned v ∧ BOwn w' w.heap.size v ((mirTo (sq d xs) 64).getD 0 0) (acTo (mirTo (sq d xs) 64) 63) ∧ Below w.heap.size w w' := by
  have h63 := (blk_at hok).2.1
  have HST := hid (show StT w [.int .i64 d, .slice a 63 c] [.int .i64 0, .slice none 0 0] ((w.alloc (.cells #[.int .i64 d, .slice a 63 c] 28)).alloc (.cells #[.int .i64 0, .slice none 0 0] 28)) from
    ⟨((Below.refl w.heap.size w).alloc (Nat.le_refl _) _).alloc (by simp) _, (Blk.new w [.int .i64 d, .slice a 63 c] 28).alloc _, Blk.newG (by simp) [.int .i64 0, .slice none 0 0] 28⟩)
  have HOK := hid (fun q (hq : Below w.heap.size w q) => impl_blockOk (.agg #[.int .i64 d, .slice a 63 c]) d xs q (by omega) ⟨a, c, by rw [h63], by rw [h63]; exact hv.below (Nat.le_refl _) hq⟩)
  rw [hok] at HOK
  have HSQ := hid (fun q (hq : Below w.heap.size w q) => impl_square d xs a c q h63 (hv.below (Nat.le_refl _) hq) (hw.below hq))
  have hS64 := sq_len d xs
  have hbd := bd_sq hok 63 (Nat.le_refl _)
  have HMI := hid (fun q => impl_mir (sq d xs) hS64 hbd q)
  have HBL := hid (fun q (hq : Below w.heap.size w q) => impl_block (mirTo (sq d xs) 64) ((mirTo_len _ 64).trans hS64) q (hw.below hq))
  have HWY := hid (fun q => impl_ways 0 (.inl rfl) q)
  clear hok hv hw h63 hS64 hbd
  generalize sq d xs = S at *
  obtain ⟨M, hM⟩ : ∃ M, M = mirTo S 64 := ⟨_, rfl⟩
  rw [← hM] at HMI HBL ⊢
  clear hM
  generalize M.getD 0 0 = D at *
  go_enter Tryd.func28, Tryd.ntmps28
  go_wp2_with fail
  refine (HOK.out _ HST.out.1).mono ?_
  rintro e w1 ⟨rfl, hb1⟩
  have HSc := hid (HST.out.step hb1)
  have q1 := HSc.out.2.1.cell (i := 0) rfl
  have q2 := HSc.out.2.1.cell (i := 1) rfl
  clear HST HOK hb1
  go_wp2_with fail
  have hfl : ∀ (f g : Value) (q : World), (Instr.field 70 (.agg #[f, g]) 0).run Tryd.prog q = .ok f q := fun _ _ _ => rfl
  go_region_with (first
      | (go_at_call 46; refine (HWY.out _).mono ?_; rintro e wa ⟨rfl, hba⟩; simp only; have HSn := hid (by first | exact HSc.out.step hba | exact HSc.out.stepD hba); clear HSc q1 q2; have HSc := hid HSn.out; clear HSn; have q1 := HSc.out.2.1.cell (i := 0) rfl; have q2 := HSc.out.2.1.cell (i := 1) rfl)
      | (go_at_call 31; refine (HSQ.out _ (by first | exact HSc.out.1 | exact belowN HSc.out.1 1)).mono ?_; rintro e wa ⟨rfl, hba⟩; have HSn := hid (by first | exact HSc.out.step hba | exact HSc.out.stepD hba); clear HSc q1 q2; have HSc := hid HSn.out; clear HSn; have q1 := HSc.out.2.1.cell (i := 0) rfl; have q2 := HSc.out.2.1.cell (i := 1) rfl)
      | (go_at_call 49; refine (HMI.out _).mono ?_; rintro e wa ⟨rfl, hba⟩; have HSn := hid (by first | exact HSc.out.step hba | exact HSc.out.stepD hba); clear HSc q1 q2; have HSc := hid HSn.out; clear HSn; have q1 := HSc.out.2.1.cell (i := 0) rfl; have q2 := HSc.out.2.1.cell (i := 1) rfl)
      | (go_at_call 32; refine (HBL.out _ (by first | exact HSc.out.1 | exact belowN HSc.out.1 1)).mono ?_; rintro e wa ⟨v, rfl, hO, hba⟩; have hszB := HSc.out.2.2.lt; obtain ⟨va, rfl, hOw⟩ := hO; obtain ⟨oo, oc, rfl⟩ := hOw.shape; have HOw := hid hOw; have HSn := hid (by first | exact HSc.out.step hba | exact HSc.out.stepD hba); clear HSc q1 q2; have HSc := hid HSn.out; clear HSn; have q1 := HSc.out.2.1.cell (i := 0) rfl; have q2 := HSc.out.2.1.cell (i := 1) rfl; have s0 := HSc.out.2.2.cell (i := 0) rfl; have s1 := HSc.out.2.2.cell (i := 1) rfl; have f0 := HSc.out.2.2.free 0; have f1 := HSc.out.2.2.free 1; clear hOw hba))
  all_goals
    go_wp2_with fail
    refine bodyPost_ret (v := .agg #[.int .i64 D, .slice oo (acTo M 63).length oc]) (by simp [results, Tryd.results28, go_sem, s0, s1]) rfl ⟨_, rfl, ⟨_, rfl, ?_⟩, ?_⟩
    · exact ((HOw.out.setB (by omega) _).setB (by omega) _).mono (by omega)
    · exact belowSet (belowSet HSc.out.1 (Nat.le_succ _) _) (Nat.le_succ _) _

set_option maxRecDepth 20000 in
set_option maxHeartbeats 1600000 in
theorem impl_turned1 (d : Int) (xs : List Int) (a : Option Addr) (c : Nat) (w : World) (hok : blkOk d xs = true) (hv : View .i64 w a 63 xs) (hw : WayAt w) :
    Calls Tryd.prog 28 #[.agg #[.int .i64 d, .slice a 63 c], .int .i64 1] w fun e w' => ∃ v, e = .returned v ∧ BOwn w' w.heap.size v ((trTo (sq d xs) 64).getD 0 0) (acTo (trTo (sq d xs) 64) 63) ∧ Below w.heap.size w w' := by
  have h63 := (blk_at hok).2.1
  have HST := hid (show StT w [.int .i64 d, .slice a 63 c] [.int .i64 0, .slice none 0 0] ((w.alloc (.cells #[.int .i64 d, .slice a 63 c] 28)).alloc (.cells #[.int .i64 0, .slice none 0 0] 28)) from
    ⟨((Below.refl w.heap.size w).alloc (Nat.le_refl _) _).alloc (by simp) _, (Blk.new w [.int .i64 d, .slice a 63 c] 28).alloc _, Blk.newG (by simp) [.int .i64 0, .slice none 0 0] 28⟩)
  have HOK := hid (fun q (hq : Below w.heap.size w q) => impl_blockOk (.agg #[.int .i64 d, .slice a 63 c]) d xs q (by omega) ⟨a, c, by rw [h63], by rw [h63]; exact hv.below (Nat.le_refl _) hq⟩)
  rw [hok] at HOK
  have HSQ := hid (fun q (hq : Below w.heap.size w q) => impl_square d xs a c q h63 (hv.below (Nat.le_refl _) hq) (hw.below hq))
  have hS64 := sq_len d xs
  have hbd := bd_sq hok 63 (Nat.le_refl _)
  have HMI := hid (fun q => impl_tr (sq d xs) hS64 q)
  have HBL := hid (fun q (hq : Below w.heap.size w q) => impl_block (trTo (sq d xs) 64) (trTo_len _ 64) q (hw.below hq))
  have HWY := hid (fun q => impl_ways 1 (.inr rfl) q)
  clear hok hv hw h63 hS64 hbd
  generalize sq d xs = S at *
  obtain ⟨M, hM⟩ : ∃ M, M = trTo S 64 := ⟨_, rfl⟩
  rw [← hM] at HMI HBL ⊢
  clear hM
  generalize M.getD 0 0 = D at *
  go_enter Tryd.func28, Tryd.ntmps28
  go_wp2_with fail
  refine (HOK.out _ HST.out.1).mono ?_
  rintro e w1 ⟨rfl, hb1⟩
  have HSc := hid (HST.out.step hb1)
  have q1 := HSc.out.2.1.cell (i := 0) rfl
  have q2 := HSc.out.2.1.cell (i := 1) rfl
  clear HST HOK hb1
  go_wp2_with fail
  have hfl : ∀ (f g : Value) (q : World), (Instr.field 70 (.agg #[f, g]) 0).run Tryd.prog q = .ok f q := fun _ _ _ => rfl
  go_region_with (first
      | (go_at_call 46; refine (HWY.out _).mono ?_; rintro e wa ⟨rfl, hba⟩; simp only [if_neg (show ¬ (1 : Int) = 0 by decide)]; have HSn := hid (by first | exact HSc.out.step hba | exact HSc.out.stepD hba); clear HSc q1 q2; have HSc := hid HSn.out; clear HSn; have q1 := HSc.out.2.1.cell (i := 0) rfl; have q2 := HSc.out.2.1.cell (i := 1) rfl)
      | (go_at_call 31; refine (HSQ.out _ (by first | exact HSc.out.1 | exact belowN HSc.out.1 1)).mono ?_; rintro e wa ⟨rfl, hba⟩; have HSn := hid (by first | exact HSc.out.step hba | exact HSc.out.stepD hba); clear HSc q1 q2; have HSc := hid HSn.out; clear HSn; have q1 := HSc.out.2.1.cell (i := 0) rfl; have q2 := HSc.out.2.1.cell (i := 1) rfl)
      | (go_at_call 51; refine (HMI.out _).mono ?_; rintro e wa ⟨rfl, hba⟩; have HSn := hid (by first | exact HSc.out.step hba | exact HSc.out.stepD hba); clear HSc q1 q2; have HSc := hid HSn.out; clear HSn; have q1 := HSc.out.2.1.cell (i := 0) rfl; have q2 := HSc.out.2.1.cell (i := 1) rfl)
      | (go_at_call 32; refine (HBL.out _ (by first | exact HSc.out.1 | exact belowN HSc.out.1 1)).mono ?_; rintro e wa ⟨v, rfl, hO, hba⟩; have hszB := HSc.out.2.2.lt; obtain ⟨va, rfl, hOw⟩ := hO; obtain ⟨oo, oc, rfl⟩ := hOw.shape; have HOw := hid hOw; have HSn := hid (by first | exact HSc.out.step hba | exact HSc.out.stepD hba); clear HSc q1 q2; have HSc := hid HSn.out; clear HSn; have q1 := HSc.out.2.1.cell (i := 0) rfl; have q2 := HSc.out.2.1.cell (i := 1) rfl; have s0 := HSc.out.2.2.cell (i := 0) rfl; have s1 := HSc.out.2.2.cell (i := 1) rfl; have f0 := HSc.out.2.2.free 0; have f1 := HSc.out.2.2.free 1; clear hOw hba))
  all_goals
    go_wp2_with fail
    refine bodyPost_ret (v := .agg #[.int .i64 D, .slice oo (acTo M 63).length oc]) (by simp [results, Tryd.results28, go_sem, s0, s1]) rfl ⟨_, rfl, ⟨_, rfl, ?_⟩, ?_⟩
    · exact ((HOw.out.setB (by omega) _).setB (by omega) _).mono (by omega)
    · exact belowSet (belowSet HSc.out.1 (Nat.le_succ _) _) (Nat.le_succ _) _

end Go.Proofs.YtcodmkampihphaaDoor
