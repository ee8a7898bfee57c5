/- The two turns of a square, and what a turn does, of the program. -/
import Derived.Test.YtcodmkampihphaaDoorSe
import Derived.Laws.EntriesVeiled
namespace Go.Proofs.YtcodmkampihphaaDoor
open Go.RowKit
set_option linter.unusedVariables false

/-- The cells of odd columns with their signs turned, the first k cells looked at. -/
def mirTo (S : List Int) : Nat → List Int
  | 0 => S
  | k + 1 => if k % 2 = 1 then (mirTo S k).set k (-((mirTo S k).getD k 0)) else mirTo S k
theorem mirTo_len (S : List Int) : ∀ k, (mirTo S k).length = S.length
  | 0 => rfl
  | k + 1 => by
    rw [mirTo]
    split
    · rw [List.length_set, mirTo_len S k]
    · exact mirTo_len S k
theorem getD_set_self {L : List Int} {i : Nat} {x : Int} (h : i < L.length) : (L.set i x).getD i 0 = x := by simp [List.getD, h]
theorem getD_set_ne {L : List Int} {i j : Nat} {x : Int} (h : i ≠ j) : (L.set i x).getD j 0 = L.getD j 0 := by simp [List.getD, h]
theorem mirTo_at (S : List Int) (hS : S.length = 64) : ∀ k, k ≤ 64 → ∀ i, (mirTo S k).getD i 0 = if i < k ∧ i % 2 = 1 then -(S.getD i 0) else S.getD i 0
  | 0, _, i => by simp [mirTo]
  | k + 1, hk, i => by
    have ih := mirTo_at S hS k (by omega)
    rw [mirTo]
    by_cases hp : k % 2 = 1
    · rw [if_pos hp]
      by_cases e : k = i
      · subst e
        rw [getD_set_self (by rw [mirTo_len]; omega), ih k, if_neg (by omega), if_pos ⟨by omega, hp⟩]
      · rw [getD_set_ne e, ih i]
        by_cases h1 : i < k ∧ i % 2 = 1
        · rw [if_pos h1, if_pos ⟨by omega, h1.2⟩]
        · rw [if_neg h1, if_neg (by omega)]
    · rw [if_neg hp, ih i]
      by_cases h1 : i < k ∧ i % 2 = 1
      · rw [if_pos h1, if_pos ⟨by omega, h1.2⟩]
      · rw [if_neg h1, if_neg (by omega)]
/-- The cells, rows as columns, the first k cells laid. -/
def trTo (S : List Int) : Nat → List Int
  | 0 => z64
  | k + 1 => (trTo S k).set (8 * (k % 8) + k / 8) (S.getD k 0)
theorem trTo_len (S : List Int) : ∀ k, (trTo S k).length = 64
  | 0 => rfl
  | k + 1 => by rw [trTo, List.length_set, trTo_len S k]

set_option maxRecDepth 20000 in
set_option maxHeartbeats 800000 in
theorem impl_mir (S : List Int) (hS : S.length = 64) (hb : ∀ i, -1023 ≤ S.getD i 0 ∧ S.getD i 0 ≤ 1023) (w : World) :
    Calls Tryd.prog 49 #[.agg (ivs S).toArray] w fun e w' => e = .returned (.agg (ivs (mirTo S 64)).toArray) ∧ Below w.heap.size w w' := by
  have HL := hid hS
  have HBD := hid hb
  have HB0 := hid (((Below.refl w.heap.size w).alloc (Nat.le_refl _) (.cells (ivs S).toArray 52)).alloc (by simp) (.cells (ivs z64).toArray 52))
  have HS0 := hid ((Blk.new w (ivs S) 52).alloc (.cells (ivs z64).toArray 52))
  have HR0 := hid (Blk.newG (w := w.alloc (.cells (ivs S).toArray 52)) (g := w.heap.size + 1) (by simp) (ivs z64) 52)
  have hsz : ((w.alloc (.cells (ivs S).toArray 52)).alloc (.cells (ivs z64).toArray 52)).heap.size = w.heap.size + 1 + 1 := by simp
  clear hS hb
  go_enter Tryd.func49, Tryd.ntmps49
  go_wp2_with (with_reducible refine at_alloc 52 ?_; refine wpList_newZ _ rfl 52 rfl (ivs z64) zero52 ?_)
  generalize (w.alloc (.cells (ivs S).toArray 52)).alloc (.cells (ivs z64).toArray 52) = w1 at *
  go_loopw [4] (fun i wr => ∃ k : Nat, k ≤ 64 ∧ i = .int .i64 k ∧ Hid (Blk wr w.heap.size (ivs (mirTo S k)) 52) ∧ Hid (Ef w.heap.size w1 wr)) (fun i _ => 64 - (intOf i).toNat)
  case atStart => exact ⟨0, by omega, rfl, HS0.out, Ef.refl _ _⟩
  case round =>
    obtain ⟨k, hk, rfl, hD, hE⟩ := hrel
    by_cases hlt : k < 64
    · have hlt' : (k : Int) < 64 := by omega
      have hcl := hD.out.cell (ivs_get (mirTo S k) k (by rw [mirTo_len, HL.out]; exact hlt))
      have hfr := hD.out.free k
      have hbd : -1023 ≤ (mirTo S k).getD k 0 ∧ (mirTo S k).getD k 0 ≤ 1023 := by
        rw [mirTo_at S HL.out k hk k, if_neg (by omega)]
        exact HBD.out k
      have HN : Hid (mirTo S (k + 1) = if k % 2 = 1 then (mirTo S k).set k (-((mirTo S k).getD k 0)) else mirTo S k) := rfl
      generalize (mirTo S k).getD k 0 = Y at *
      obtain ⟨y0, y1⟩ := hbd
      by_cases hp : k % 2 = 1
      · have hp' : ((k : Int) % 8 % 2 == 1) = true := by simp; omega
        rw [if_pos hp] at HN
        go_wp2_with fail
        go_roundw
        case rel => exact ⟨k + 1, by omega, by go_num, by rw [HN.out, ← ivs_set]; exact hD.out.set _ _, hE.out.trans (Ef.set _ _ _)⟩
        case measure => simp [intOf]; omega
      · have hp' : ((k : Int) % 8 % 2 == 1) = false := by simp; omega
        rw [if_neg hp] at HN
        go_wp2_with fail
        go_roundw
        case rel => exact ⟨k + 1, by omega, by go_num, by rw [HN.out]; exact hD.out, hE.out⟩
        case measure => simp [intOf]; omega
    · obtain rfl : k = 64 := by omega
      have hL := hid ((mirTo_len S 64).trans HL.out)
      have hR2 := hid (HR0.out.ef hE.out (by omega))
      have hB2 := hid (HB0.out.trans (hE.out.below (Nat.le_refl _) HB0.out.size))
      have hD2 := hid hD.out
      clear hD hE hlt hk
      obtain ⟨M, hM⟩ : ∃ M, M = mirTo S 64 := ⟨_, rfl⟩
      rw [← hM] at hL hD2
      have HM := hid hM
      clear hM
      go_wp2_with (first | (with_reducible refine at_load 52 ?_; refine wpList_loadR _ rfl 52 _ rfl w.heap.size (ivs M) hD2.out (by go_simp) 64 3 Tryd.underlying52 (size52L hL.out) ?_) | (with_reducible refine at_store 52 ?_; refine wpList_storeR _ rfl 52 _ _ rfl (w.heap.size + 1) (ivs z64) (ivs M) hR2.out (by go_simp) rfl (ivs_len2 z64_len hL.out) (size52L hL.out) (ivs_one _) ?_))
      intro w3 hb3 he3
      go_wp2_with fail
      refine bodyPost_ret (v := .agg (ivs M).toArray) ?_ rfl ⟨by rw [HM.out], hB2.out.trans (he3.below (by omega) hB2.out.size)⟩
      have hld := run_loadVar_row (P := Tryd.prog) w3 (w.heap.size + 1) 52 52 (ivs M).toArray (0, 0) _ hb3 Tryd.underlying52 rfl (by simpa using size52L hL.out)
      exact results_one_cell rfl _ _ _ _ _ rfl hld
end Go.Proofs.YtcodmkampihphaaDoor
