/- Comparisons of rows and of rows of blocks; a drawn list of blocks. -/
import Derived.Test.YtcodmkampihphaaDoorFp
import Derived.Test.YtcodmkampihphaaDoorDrawBs
namespace Go.Proofs.YtcodmkampihphaaDoor
open Go.RowKit
set_option linter.unusedVariables false

set_option maxHeartbeats 800000 in
theorem same_true (ao bo : Option Addr) (c c' : Nat) (xs : List Int) (w : World) (hl : xs.length ≤ 1048576) (ha : View .i64 w ao xs.length xs) (hb : View .i64 w bo xs.length xs) :
    Calls Tryd.prog 33 #[.slice ao xs.length c, .slice bo xs.length c'] w fun e w' => e = .returned (.bool true) ∧ ∃ n, w' = w.drewN n := by
  have HA := hid ha
  have HB := hid hb
  have hll : ((xs.length : Int) != (xs.length : Int)) = false := by simp
  generalize hN : xs.length = n at *
  clear hN ha hb
  go_enter Tryd.func33, Tryd.ntmps33
  go_wp2_with fail
  go_loopw [5] (fun i wr => ∃ k : Nat, k ≤ n ∧ i = .int .i64 k ∧ Hid (∃ q, wr = w.drewN q)) (fun i _ => n - (intOf i).toNat)
  case atStart => exact ⟨0, by omega, rfl, 0, rfl⟩
  case round =>
    obtain ⟨k, hk, rfl, hq⟩ := hrel
    by_cases hlt : k < n
    · have hlt' : (k : Int) < (n : Int) := by omega
      obtain ⟨b, off, rfl, h1⟩ := HA.out.2 k hlt
      obtain ⟨b', off', rfl, h2⟩ := HB.out.2 k hlt
      have g1 : wr.cell? ⟨b, off + k, none⟩ = some (.int .i64 (xs.getD k 0)) := by obtain ⟨q, rfl⟩ := hq.out; exact h1
      have g2 : wr.cell? ⟨b', off' + k, none⟩ = some (.int .i64 (xs.getD k 0)) := by obtain ⟨q, rfl⟩ := hq.out; exact h2
      clear h1 h2
      generalize xs.getD k 0 = Y at *
      have hYY : (Y != Y) = false := by simp
      have jk : IntKind.i64.wrap (k : Int) = (k : Int) := by rw [IntKind.wrap_i64]; omega
      go_wp2_with fail
      go_quiet (fail)
      have hq2 : Hid (∃ q, wr.drewN nq = w.drewN q) := by obtain ⟨q, rfl⟩ := hq.out; exact ⟨_, World.drewN_drewN _ _ _⟩
      go_wp2_with fail
      go_roundw
      case rel => exact ⟨k + 1, by omega, by go_num, hq2⟩
      case measure => simp [intOf]; omega
    · obtain rfl : k = n := by omega
      go_wp2_with fail
      go_ret
      exact ⟨rfl, hq.out⟩

set_option maxHeartbeats 1600000 in
theorem same_blocks (ao bo : Option Addr) (c c' : Nat) (L : List (Int × List Int)) (w : World) (hl : L.length ≤ 1048576) (hx : ∀ j, j < L.length → (nth L j).2.length ≤ 1048576) (ha : BRow w ao L) (hb : BRow w bo L) :
    Calls Tryd.prog 14 #[.slice ao L.length c, .slice bo L.length c'] w fun e w' => e = .returned (.bool true) ∧ ∃ n, w' = w.drewN n := by
  have HA := hid ha
  have HB := hid hb
  have HX := hid hx
  have hll : ((L.length : Int) != (L.length : Int)) = false := by simp
  generalize hN : L.length = n at *
  clear ha hb hx
  go_enter Tryd.func14, Tryd.ntmps14
  go_wp2_with fail
  go_loopw [5] (fun i wr => ∃ k : Nat, k ≤ n ∧ i = .int .i64 k ∧ Hid (∃ q, wr = w.drewN q)) (fun i _ => n - (intOf i).toNat)
  case atStart => exact ⟨0, by omega, rfl, 0, rfl⟩
  case round =>
    obtain ⟨k, hk, rfl, hq⟩ := hrel
    by_cases hlt : k < n
    · have hlt' : (k : Int) < (n : Int) := by omega
      obtain ⟨b, off, a, cc, rfl, h1, h2, hv⟩ := HA.out k (by omega)
      obtain ⟨b', off', a', cc', rfl, h1', h2', hv'⟩ := HB.out k (by omega)
      have hlen := HX.out k hlt
      have HSM := hid (fun q (hq : ∃ m, q = w.drewN m) => same_true a a' cc cc' (nth L k).2 q hlen (by obtain ⟨m, rfl⟩ := hq; exact hv) (by obtain ⟨m, rfl⟩ := hq; exact hv'))
      generalize (nth L k).1 = D at *
      generalize (nth L k).2.length = m at *
      have g1 : wr.cell? ⟨b, off + k * 2, none⟩ = some (.int .i64 D) := by obtain ⟨q, rfl⟩ := hq.out; exact h1
      have g2 : wr.cell? ⟨b, off + k * 2 + 1, none⟩ = some (.slice a m cc) := by obtain ⟨q, rfl⟩ := hq.out; exact h2
      have g3 : wr.cell? ⟨b', off' + k * 2, none⟩ = some (.int .i64 D) := by obtain ⟨q, rfl⟩ := hq.out; exact h1'
      have g4 : wr.cell? ⟨b', off' + k * 2 + 1, none⟩ = some (.slice a' m cc') := by obtain ⟨q, rfl⟩ := hq.out; exact h2'
      clear h1 h2 h1' h2' hv hv'
      have hYY : (D != D) = false := by simp
      have jk : IntKind.i64.wrap (k : Int) = (k : Int) := by rw [IntKind.wrap_i64]; omega
      have HSQ := hid (fun q2 => HSM.out (wr.drewN q2) (by obtain ⟨q, rfl⟩ := hq.out; exact ⟨_, World.drewN_drewN _ _ _⟩))
      go_wp2_with fail
      go_quiet ((go_at_call 33; exact Calls.quiet_of (HSQ.out _)))
      have hq2 : Hid (∃ q, wr.drewN nq = w.drewN q) := by obtain ⟨q, rfl⟩ := hq.out; exact ⟨_, World.drewN_drewN _ _ _⟩
      go_wp2_with fail
      go_roundw
      case rel => exact ⟨k + 1, by omega, by go_num, hq2⟩
      case measure => simp [intOf]; omega
    · obtain rfl : k = n := by omega
      go_wp2_with fail
      go_ret
      exact ⟨rfl, hq.out⟩

theorem OwnB.mono {w : World} {base base' : Nat} {v : Value} {L : List (Int × List Int)} (h : OwnB w base v L) (hb : base' ≤ base) : OwnB w base' v L := by
  obtain ⟨h1, vs, hl, h2, h3⟩ := h
  refine ⟨Nat.le_trans hb h1, vs, hl, ⟨h2.1, ?_⟩, fun j hj => (h3 j hj).mono hb⟩
  rcases h2.2 with h0 | ⟨g, cap, cur, hv, hg, r⟩
  · exact .inl h0
  · exact .inr ⟨g, cap, cur, hv, Nat.le_trans hb hg, r⟩
theorem big_any (ao : Option Addr) (n cap : Nat) (w : World) :
    Calls Tryd.prog 8 #[.slice ao n cap] w fun e w' => e = .returned (.bool (decide ((1048576 : Int) < (n : Int)))) ∧ w = w' := by
  go_enter Tryd.func8, Tryd.ntmps8
  go_wp2
  go_ret
  exact ⟨rfl, rfl⟩
theorem code_row {w : World} {ao : Option Addr} {n cap : Nat} {zs : List Int} (hr : IsRow .u8 w ao n cap zs) (hn : n ≤ 1048576) : Code w ao n (zs.take n) := ⟨hn, hr.view, hr.wf⟩

set_option maxHeartbeats 1600000 in
theorem draw_blocks (ao : Option Addr) (n cap : Nat) (zs : List Int) (w : World) (hcode : Code w ao n zs) :
    Calls Tryd.prog 9 #[.slice ao n cap] w fun e w' => ∃ v, e = .returned v ∧ (∃ L, (1 ≤ L.length ∧ L.length ≤ 8) ∧ (∀ j, j < L.length → blkOk (nth L j).1 (nth L j).2 = true) ∧ OwnB w' w.heap.size v L) ∧ Below w.heap.size w w' := by
  have HC := hid hcode
  clear hcode
  go_enter Tryd.func9, Tryd.ntmps9
  go_wp2_with fail
  refine (new_any ao n cap zs w HC.out).mono ?_
  rintro e w1 ⟨C, rfl, hc1, hb1⟩
  have HC1 := hid hc1
  have B1 := hid hb1
  have hCw := hc1.1
  clear hc1 hb1
  go_wp2_with fail
  refine (below_any w ao n cap C zs 8 w1 HC.out HC1.out).mono ?_
  rintro e w2 ⟨x, rfl, ⟨hx0, hx1⟩, hc2, he2⟩
  obtain ⟨k, rfl⟩ := Int.eq_ofNat_of_zero_le hx0
  have hk : k ≤ 7 := by omega
  have HC2 := hid hc2
  have HB2 := hid (B1.out.trans ((he2.below (Nat.le_of_lt HC1.out.lt)).mono hCw))
  have hk1 : (1 : Int) + (k : Int) = ((1 + k : Nat) : Int) := by omega
  have HBS := hid (blocks_any w ao n cap C zs (1 + k) w2 (by omega) HC.out HC2.out)
  rw [← hk1] at HBS
  clear hc2 he2 hx0 hx1 hk1
  go_wp2_with fail
  refine HBS.out.mono ?_
  rintro e w3 ⟨v, rfl, ⟨L, hL, hoks, hown⟩, hc3, he3⟩
  have HB3 := hid (HB2.out.trans ((he3.below (Nat.le_of_lt HC2.out.lt)).mono hCw))
  have HO3 := hid (hown.mono HB2.out.size)
  obtain ⟨so, sc', hsv⟩ := hown.shape
  subst hsv
  have HOK := hid hoks
  have HL := hid hL
  clear hown hc3 he3 hoks hL
  go_wp2_with fail
  go_ret
  exact ⟨_, rfl, ⟨L, ⟨by rw [HL.out]; omega, by rw [HL.out]; omega⟩, HOK.out, HO3.out⟩, HB3.out⟩


end Go.Proofs.YtcodmkampihphaaDoor
