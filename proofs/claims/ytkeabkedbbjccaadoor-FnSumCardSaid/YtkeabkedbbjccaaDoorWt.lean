/- SumWords of the specification: the words of a block. -/
import Derived.Test.YtkeabkedbbjccaaDoorWs
namespace Go.Proofs.YtkeabkedbbjccaaDoor
open Go.RowKit
set_option linter.unusedVariables false

theorem Own.at0 {w : World} {base : Nat} {e : TypeId} {k : IntKind} {v : Value} {xs : List Int} (h : Own w base e k v xs) (h0 : 0 < xs.length) : ∃ g cap, v = .slice (some ⟨g, 0, none⟩) xs.length cap := by
  rcases h.2.2 with ⟨rfl, h1⟩ | ⟨g, cap, cur, rfl, _⟩
  · omega
  · exact ⟨g, cap, rfl⟩

set_option maxRecDepth 100000 in
set_option maxHeartbeats 1600000 in
theorem spec_words (s : ByteArray) (hs : s.size = 64) (w : World) :
    Calls Tryd.prog 18 #[.string s] w fun e w' => ∃ v, e = .returned v ∧ Own w' w.heap.size 26 .u32 v (ws s 64) ∧ Below w.heap.size w w' := by
  have HS := hid hs
  have hs1 : (s.size : Int) = 64 := by omega
  clear hs
  go_enter Tryd.func18, Tryd.ntmps18
  go_wp2_with fail
  go_loopw [3, 4] (fun v i wr => ∃ k : Nat, k ≤ 16 ∧ i = .int .i64 k ∧ Hid (Own wr w.heap.size 26 .u32 v (ws s k)) ∧ Hid (Below w.heap.size w wr)) (fun _ i _ => 16 - (intOf i).toNat)
  case atStart => exact ⟨0, by omega, rfl, Own.empty _ _ _ _ (Nat.le_refl _), (Below.refl _ _).alloc (Nat.le_refl _) _⟩
  case round =>
    obtain ⟨k, hk, rfl, hown, hb⟩ := hrel
    by_cases hlt : k < 16
    · have hlt' : (k : Int) < 16 := by omega
      have HG := hid (gw_spec s HS.out k hlt wr)
      have HN : Hid (nextW s (ws s k) k = wordAt s (4 * k)) := hid (by unfold nextW; rw [if_pos hlt])
      go_wp2_with fail
      refine HG.out.mono ?_
      rintro e w2 ⟨rfl, n2, rfl⟩
      have O2 := hid (hown.out.drew n2)
      go_wp2_with (at_builtin; refine wpList_push _ rfl _ _ 32 rfl _ 26 .u32 0 4 Tryd.underlying32 Tryd.info26 _ _ rfl O2.out (wordAt s (4 * k)) rfl (by rw [ws_len]; omega) (by decide) ?_)
      intro v3 w3 ho3 hb3
      go_wp2_with fail
      go_roundw
      case rel => exact ⟨k + 1, by omega, by go_num, by rw [ws, HN.out]; exact ho3, (belowN hb.out n2).trans hb3⟩
      case measure => simp [intOf]; omega
    · obtain rfl : k = 16 := by omega
      clear hlt hk
      go_wp2_with fail
      go_loopw [3, 5] (fun v i wr => ∃ k : Nat, 16 ≤ k ∧ k ≤ 64 ∧ i = .int .i64 k ∧ Hid (Own wr w.heap.size 26 .u32 v (ws s k)) ∧ Hid (Below w.heap.size w wr)) (fun _ i _ => 64 - (intOf i).toNat)
      case atStart => exact ⟨16, by omega, by omega, rfl, hown.out, hb.out⟩
      case round =>
        obtain ⟨k, hk0, hk, rfl, hown, hb⟩ := hrel
        by_cases hlt : k < 64
        · have hlt' : (k : Int) < 64 := by omega
          obtain ⟨g, cp, rfl⟩ := hown.out.at0 (by rw [ws_len]; omega)
          have c16 := hown.out.at (k - 16) (by rw [ws_len]; omega)
          have c15 := hown.out.at (k - 15) (by rw [ws_len]; omega)
          have c7 := hown.out.at (k - 7) (by rw [ws_len]; omega)
          have c2 := hown.out.at (k - 2) (by rw [ws_len]; omega)
          rw [ws_len] at hown ⊢
          have HA := hid (getD_word (ws_word s k) (k - 16))
          have HB := hid (getD_word (ws_word s k) (k - 15))
          have HC := hid (getD_word (ws_word s k) (k - 7))
          have HD := hid (getD_word (ws_word s k) (k - 2))
          have HN : Hid (ws s (k + 1) = ws s k ++ [((((ws s k).getD (k - 16) 0 + sm0 ((ws s k).getD (k - 15) 0)) % 4294967296 + (ws s k).getD (k - 7) 0) % 4294967296 + sm1 ((ws s k).getD (k - 2) 0)) % 4294967296]) := hid (by
            rw [ws]
            unfold nextW
            rw [if_neg (by omega)]
            rfl)
          have HWL := hid (ws_len s k)
          generalize (ws s k).getD (k - 16) 0 = A at *
          generalize (ws s k).getD (k - 15) 0 = B at *
          generalize (ws s k).getD (k - 7) 0 = C at *
          generalize (ws s k).getD (k - 2) 0 = D at *
          have HR7 := hid (fun q => spec_rot B 7 7 rfl (by decide) q HB.out)
          have HR18 := hid (fun q => spec_rot B 18 18 rfl (by decide) q HB.out)
          have HR17 := hid (fun q => spec_rot D 17 17 rfl (by decide) q HD.out)
          have HR19 := hid (fun q => spec_rot D 19 19 rfl (by decide) q HD.out)
          have b0 := (sm0_word HB.out).1
          have b1 := (sm0_word HB.out).2
          have d0 := (sm1_word HD.out).1
          have d1 := (sm1_word HD.out).2
          have a0 := HA.out.1
          have a1 := HA.out.2
          have e0 := HC.out.1
          have e1 := HC.out.2
          have v0 := HB.out.1
          have v1 := HB.out.2
          have z0 := HD.out.1
          have z1 := HD.out.2
          have j16 : IntKind.i64.wrap ((k : Int) - 16) = (k : Int) - 16 := by rw [IntKind.wrap_i64]; omega
          have p16 : (16 : Int) ≤ (k : Int) := by omega
          have m16 : (0 : Int) ≤ (k : Int) - 16 := by omega
          have l16 : (k : Int) - 16 < 64 := by omega
          have r16 : (k : Int) - 16 < (k : Int) := by omega
          have j15 : IntKind.i64.wrap ((k : Int) - 15) = (k : Int) - 15 := by rw [IntKind.wrap_i64]; omega
          have p15 : (15 : Int) ≤ (k : Int) := by omega
          have m15 : (0 : Int) ≤ (k : Int) - 15 := by omega
          have l15 : (k : Int) - 15 < 64 := by omega
          have r15 : (k : Int) - 15 < (k : Int) := by omega
          have j7 : IntKind.i64.wrap ((k : Int) - 7) = (k : Int) - 7 := by rw [IntKind.wrap_i64]; omega
          have p7 : (7 : Int) ≤ (k : Int) := by omega
          have m7 : (0 : Int) ≤ (k : Int) - 7 := by omega
          have l7 : (k : Int) - 7 < 64 := by omega
          have r7 : (k : Int) - 7 < (k : Int) := by omega
          have j2 : IntKind.i64.wrap ((k : Int) - 2) = (k : Int) - 2 := by rw [IntKind.wrap_i64]; omega
          have p2 : (2 : Int) ≤ (k : Int) := by omega
          have m2 : (0 : Int) ≤ (k : Int) - 2 := by omega
          have l2 : (k : Int) - 2 < 64 := by omega
          have r2 : (k : Int) - 2 < (k : Int) := by omega
          rw [show k - 16 = ((k : Int) - 16).toNat by omega] at c16
          rw [show k - 15 = ((k : Int) - 15).toNat by omega] at c15
          rw [show k - 7 = ((k : Int) - 7).toNat by omega] at c7
          rw [show k - 2 = ((k : Int) - 2).toNat by omega] at c2
          have HL := hid hlt
          have HK := hid hk0
          have E0 : Hid (bits .xor .u32 (bits .xor .u32 (rt B 7) (rt B 18)) (B / 8) = sm0 B) := rfl
          have E1 : Hid (bits .xor .u32 (bits .xor .u32 (rt D 17) (rt D 19)) (D / 1024) = sm1 D) := rfl
          clear hlt hk hk0
          generalize sm0 B = S0 at *
          generalize sm1 D = S1 at *
          go_wp2_with fail
          go_quiet (fail)
          have HO := hid (hown.out.drew nq)
          have HBE := hid (belowN hb.out nq)
          have c16 : (wr.drewN nq).cell? ⟨g, ((k : Int) - 16).toNat, none⟩ = some (.int .u32 A) := c16
          have c7 : (wr.drewN nq).cell? ⟨g, ((k : Int) - 7).toNat, none⟩ = some (.int .u32 C) := c7
          clear hown hb c15 c2
          generalize wr.drewN nq = wq at *
          go_wp2_with fail
          refine (HR7.out _).mono ?_
          rintro e w2 ⟨rfl, rfl⟩
          go_wp2_with fail
          refine (HR18.out _).mono ?_
          rintro e w2 ⟨rfl, rfl⟩
          go_wp2_with fail
          rw [E0.out]
          refine (HR17.out _).mono ?_
          rintro e w2 ⟨rfl, rfl⟩
          go_wp2_with fail
          refine (HR19.out _).mono ?_
          rintro e w2 ⟨rfl, rfl⟩
          go_wp2_with fail
          rw [E1.out]
          go_region_law (refine step_push1g wq.drew wq.heap.size rfl rfl (.tmp 56) (.tmp 72) 32 rfl _ 26 .u32 0 4 Tryd.underlying32 Tryd.info26 _ _ rfl HO.out.drew1 ((((A + S0) % 4294967296 + C) % 4294967296 + S1) % 4294967296) rfl (by rw [HWL.out]; omega) (by decide) ?_; intro v3 w3 ho3 hb3)
          all_goals
            have O3 := hid ho3
            have B3 := hid (HBE.out.trans (Below.trans (belowN (Below.refl _ _) 1) hb3))
            clear ho3 hb3
            go_wp2_with fail
            go_roundw
            case rel => exact ⟨v3, .int .i64 ((k : Int) + 1), _, _, _, _, _, _, _, _, _, _, _, _, _, _, _, _, _, _, _, _, _, _, _, _, _, _, _, _, _, _, _, _, _, _, _, _, _, _, _, _, _, _, _, _, _, _, _, _, _, _, _, _, ⟨k + 1, by omega, by omega, by go_num, by rw [HN.out]; exact O3.out, B3.out⟩, rfl⟩
            case measure => simp [intOf]; omega
        · obtain rfl : k = 64 := by omega
          clear hlt hk hk0
          go_wp2_with fail
          go_ret
          exact ⟨_, rfl, hown.out, hb.out⟩
end Go.Proofs.YtkeabkedbbjccaaDoor
