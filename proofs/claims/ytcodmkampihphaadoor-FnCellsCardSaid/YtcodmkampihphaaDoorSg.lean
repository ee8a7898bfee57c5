/- A square transposed, of the program; what a turn does. -/
import Derived.Test.YtcodmkampihphaaDoorSf
namespace Go.Proofs.YtcodmkampihphaaDoor
open Go.RowKit
set_option linter.unusedVariables false

theorem build52z : ∀ q, (Instr.build 52 #[]).run Tryd.prog q = .ok (.agg (ivs z64).toArray) q := fun q => by kernel_rfl

theorem index52 (S : List Int) (hS : S.length = 64) (q : World) (k : Nat) (hk : k < 64) : (Instr.index 52 (.agg (ivs S).toArray) (.int .i64 (k : Int))).run Tryd.prog q = .ok (.int .i64 (S.getD k 0)) q := by
  have h1 := ivs_get S k (by omega)
  simp [Instr.index, asIntOf, part, hk, h1, go_sem]
theorem index30 (S : List Int) (hS : S.length = 64) (q : World) (k : Nat) (hk : k < 64) : (Instr.index 30 (.agg (ivs S).toArray) (.int .i64 (k : Int))).run Tryd.prog q = .ok (.int .i64 (S.getD k 0)) q := by
  have h1 := ivs_get S k (by omega)
  simp [Instr.index, asIntOf, part, hk, h1, go_sem]

set_option maxRecDepth 20000 in
set_option maxHeartbeats 800000 in
theorem impl_tr (S : List Int) (hS : S.length = 64) (w : World) :
    Calls Tryd.prog 51 #[.agg (ivs S).toArray] w fun e w' => e = .returned (.agg (ivs (trTo S 64)).toArray) ∧ Below w.heap.size w w' := by
  have HL := hid hS
  have HB0 := hid ((((Below.refl w.heap.size w).alloc (Nat.le_refl _) (.cells (ivs S).toArray 52)).alloc (by simp) (.cells (ivs z64).toArray 52)).alloc (by simp; omega) (.cells (ivs z64).toArray 52))
  have HS0 := hid (((Blk.new w (ivs S) 52).alloc (.cells (ivs z64).toArray 52)).alloc (.cells (ivs z64).toArray 52))
  have HR0 := hid ((Blk.newG (w := w.alloc (.cells (ivs S).toArray 52)) (g := w.heap.size + 1) (by simp) (ivs z64) 52).alloc (.cells (ivs z64).toArray 52))
  have hsz : (((w.alloc (.cells (ivs S).toArray 52)).alloc (.cells (ivs z64).toArray 52)).alloc (.cells (ivs z64).toArray 52)).heap.size = w.heap.size + 1 + 1 + 1 := by simp
  clear hS
  go_enter Tryd.func51, Tryd.ntmps51
  go_wp2_with (first | (with_reducible refine at_alloc 52 ?_; refine wpList_newZ _ rfl 52 rfl (ivs z64) zero52 ?_) | (with_reducible refine at_build 52 ?_; refine wpList_build0 _ rfl 52 rfl (ivs z64) build52z ?_) | (with_reducible refine at_store 52 ?_; refine wpList_storeR _ rfl 52 _ _ rfl (w.heap.size + 1 + 1) (ivs z64) (ivs z64) (Blk.newG (by simp only [World.size_alloc]) _ _) (by go_simp) rfl rfl (size52L z64_len) (ivs_one _) ?_))
  generalize ((w.alloc (.cells (ivs S).toArray 52)).alloc (.cells (ivs z64).toArray 52)).alloc (.cells (ivs z64).toArray 52) = w0 at *
  intro w1 hb1 he1
  have HS := hid (HS0.out.ef he1 (by omega))
  have HR := hid (HR0.out.ef he1 (by omega))
  have HB := hid (HB0.out.trans (he1.below (by omega) HB0.out.size))
  have HD := hid hb1
  clear hb1 he1 HS0 HR0 HB0 hsz
  have hIX : ∀ (q : World) (k : Nat), k < 64 → (Instr.index 52 (.agg (ivs S).toArray) (.int .i64 (k : Int))).run Tryd.prog q = .ok (.int .i64 (S.getD k 0)) q := by
    exact fun q k hk => index52 S HL.out q k hk
  have HIX := hid hIX
  clear hIX
  go_wp2_with (with_reducible refine at_load 52 ?_; refine wpList_loadR _ rfl 52 _ rfl w.heap.size (ivs S) HS.out (by go_simp) 64 3 Tryd.underlying52 (size52L HL.out) ?_)
  go_loopw [8] (fun i wr => ∃ k : Nat, k ≤ 64 ∧ i = .int .i64 k ∧ Hid (Blk wr (w.heap.size + 1 + 1) (ivs (trTo S k)) 52) ∧ Hid (Ef (w.heap.size + 1 + 1) w1 wr)) (fun i _ => 64 - (intOf i).toNat)
  case atStart => exact ⟨0, by omega, rfl, HD.out, Ef.refl _ _⟩
  case round =>
    obtain ⟨k, hk, rfl, hD, hE⟩ := hrel
    by_cases hlt : k < 64
    · have hlt' : (k : Int) < 64 := by omega
      have hix := fun q => HIX.out q k hlt
      have k1 : 8 * (k % 8) + k / 8 < 64 := by omega
      have hcl := hD.out.cell (ivs_get (trTo S k) (8 * (k % 8) + k / 8) (by rw [trTo_len]; omega))
      have hfr := hD.out.free (8 * (k % 8) + k / 8)
      have HN : Hid (trTo S (k + 1) = (trTo S k).set (8 * (k % 8) + k / 8) (S.getD k 0)) := rfl
      generalize S.getD k 0 = Y at *
      go_wp2_with fail
      go_roundw
      case rel => exact ⟨k + 1, by omega, by go_num, by rw [HN.out, ← ivs_set]; exact hD.out.set _ _, hE.out.trans (Ef.set _ _ _)⟩
      case measure => simp [intOf]; omega
    · obtain rfl : k = 64 := by omega
      have hL := hid (trTo_len S 64)
      have hR2 := hid (HR.out.ef hE.out (by omega))
      have hB2 := hid (HB.out.trans (hE.out.below (by omega) HB.out.size))
      have hD2 := hid hD.out
      clear hD hE hlt hk
      obtain ⟨M, hM⟩ : ∃ M, M = trTo S 64 := ⟨_, rfl⟩
      rw [← hM] at hL hD2
      have HM := hid hM
      clear hM
      go_wp2_with (first | (with_reducible refine at_load 52 ?_; refine wpList_loadR _ rfl 52 _ rfl (w.heap.size + 1 + 1) (ivs M) hD2.out (by go_simp) 64 3 Tryd.underlying52 (size52L hL.out) ?_) | (with_reducible refine at_store 52 ?_; refine wpList_storeR _ rfl 52 _ _ rfl (w.heap.size + 1) (ivs z64) (ivs M) hR2.out (by go_simp) rfl (ivs_len2 z64_len hL.out) (size52L hL.out) (ivs_one _) ?_))
      intro w3 hb3 he3
      go_wp2_with fail
      refine bodyPost_ret (v := .agg (ivs M).toArray) ?_ rfl ⟨by rw [HM.out], hB2.out.trans (he3.below (by omega) hB2.out.size)⟩
      have hld := run_loadVar_row (P := Tryd.prog) w3 (w.heap.size + 1) 52 52 (ivs M).toArray (0, 0) _ hb3 Tryd.underlying52 rfl (by simpa using size52L hL.out)
      exact results_one_cell rfl _ _ _ _ _ rfl hld

set_option maxHeartbeats 400000 in
theorem impl_ways (t : Int) (ht : t = 0 ∨ t = 1) (w : World) :
    Calls Tryd.prog 46 #[.int .i64 t] w fun e w' => e = .returned (if t = 0 then .agg #[.func (.func 49) #[] #[], .func (.func 50) #[] #[]] else .agg #[.func (.func 51) #[] #[], .func (.func 52) #[] #[]]) ∧ Below w.heap.size w w' := by
  rcases ht with rfl | rfl
  · go_enter Tryd.func46, Tryd.ntmps46
    go_wp2_with fail
    refine bodyPost_ret (v := .agg #[.func (.func 49) #[] #[], .func (.func 50) #[] #[]]) (by simp [results, Tryd.results46, go_sem]) rfl ⟨rfl, ?_⟩
    exact ((Below.refl _ _).alloc (Nat.le_refl _) _).alloc (by simp) _
  · go_enter Tryd.func46, Tryd.ntmps46
    go_wp2_with fail
    refine bodyPost_ret (v := .agg #[.func (.func 51) #[] #[], .func (.func 52) #[] #[]]) (by simp [results, Tryd.results46, go_sem]) rfl ⟨rfl, ?_⟩
    exact ((Below.refl _ _).alloc (Nat.le_refl _) _).alloc (by simp) _
end Go.Proofs.YtcodmkampihphaaDoor
