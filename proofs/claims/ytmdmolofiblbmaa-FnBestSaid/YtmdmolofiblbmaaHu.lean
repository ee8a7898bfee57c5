/- A heap of trees: up, Init. -/
import Derived.Test.YtmdmolofiblbmaaHd
namespace Go.Proofs.Ytmdmolofiblbmaa
open Go.RowKit
set_option linter.unusedVariables false

theorem upP_stop (f : Nat) (S : List PT) (j : Nat) (h : 0 < j → betP (nthP S j) (nthP S ((j - 1) / 2)) = false) : upP f S j = S := by
  cases f with
  | zero => rfl
  | succ f =>
    rw [upP]
    split
    · rename_i h0
      rw [h h0, if_neg (by decide)]
    · rfl
theorem upP_go (f : Nat) (S : List PT) (j : Nat) (h0 : 0 < j) (h : betP (nthP S j) (nthP S ((j - 1) / 2)) = true) : upP (f + 1) S j = upP f (swp S ((j - 1) / 2) j) ((j - 1) / 2) := by rw [upP, if_pos h0, if_pos h]

set_option maxRecDepth 20000 in
set_option maxHeartbeats 1600000 in
theorem up_any (T G c : Nat) (E : List TE) (j : Nat) (w : World) (hTG : T ≠ G) (hj : j < E.length) (hl : E.length ≤ 1000) (h : HpM w T G c E) (hS : ∀ e ∈ E, ∃ a n c, e.y = .slice a n c) :
    Calls Try.prog 71 #[.iface 88 (.pointer (some ⟨T, 0, none⟩)), .int .i64 (j : Int)] w fun e w' => e = .returned (.tuple #[]) ∧ (∃ E', HpM w' T G c E' ∧ E'.map TE.pl = upP E.length (E.map TE.pl) j ∧ E'.length = E.length ∧ ∀ e ∈ E', e ∈ E) ∧ Ef G w w' := by
  have H := hid h
  have HS := hid hS
  have HJ := hid hj
  have HL := hid hl
  have HTG := hid hTG
  clear h hS hj hl hTG
  go_enter Try.func71, Try.ntmps71
  go_wp2_with fail
  go_loopw [1] (fun k wr => ∃ (K f : Nat) (E' : List TE), k = .int .i64 (K : Int) ∧ Hid (K < E.length) ∧ Hid (HpM wr T G c E') ∧ Hid (upP f (E'.map TE.pl) K = upP E.length (E.map TE.pl) j ∧ K < f) ∧ Hid (E'.length = E.length ∧ ∀ e ∈ E', e ∈ E) ∧ Hid (Ef G w wr)) (fun k _ => (intOf k).toNat)
  case atStart => exact ⟨j, E.length, E, rfl, HJ.out, H.out, ⟨rfl, HJ.out⟩, ⟨rfl, fun e he => he⟩, Ef.refl _ _⟩
  case round =>
    obtain ⟨K, f, E', rfl, hK, hM, hF, hE, he⟩ := hrel
    have kb : (K : Int) ≤ 1000 := by have := hK.out; have := HL.out; omega
    have hc0 := hM.out.1.cell (i := 0) rfl
    have HML : ∀ q, q.cell? ⟨T, 0, none⟩ = some (.slice (some ⟨G, 0, none⟩) E'.length c) → (method 231 88 (.pointer (some ⟨T, 0, none⟩)) "Less").run Try.prog q = .ok (91, .slice (some ⟨G, 0, none⟩) E'.length c) q := fun q hq => method_less _ _ q hq
    have HMS : ∀ q, q.cell? ⟨T, 0, none⟩ = some (.slice (some ⟨G, 0, none⟩) E'.length c) → (method 231 88 (.pointer (some ⟨T, 0, none⟩)) "Swap").run Try.prog q = .ok (92, .slice (some ⟨G, 0, none⟩) E'.length c) q := fun q hq => method_swap _ _ q hq
    have HLn : Hid (E'.length ≤ 1000) := hid (by rw [hE.out.1]; exact HL.out)
    have HKn : Hid (K < E'.length) := hid (by rw [hE.out.1]; exact hK.out)
    have HSE : Hid (∀ e ∈ E', ∃ a n c, e.y = .slice a n c) := hid (fun e h => HS.out e (hE.out.2 e h))
    cases K with
    | zero =>
      have HR := hid ((upP_stop f (E'.map TE.pl) 0 (fun h => absurd h (by decide))).symm.trans hF.out.1)
      go_wp2_with fail
      go_end0
      exact ⟨rfl, ⟨E', hM.out, HR.out, hE.out.1, hE.out.2⟩, he.out⟩
    | succ k =>
      have hk1 : (((k + 1 : Nat) : Int) - 1) = (k : Int) := by omega
      have hne : (((k : Int) / 2) == ((k + 1 : Nat) : Int)) = false := by simp; omega
      have HI := hid (show (k + 1 - 1) / 2 = k / 2 ∧ k / 2 < E'.length from ⟨by omega, by have := HKn.out; omega⟩)
      obtain ⟨f', rfl⟩ : ∃ f', f = f' + 1 := ⟨f - 1, by have := hF.out.2; omega⟩
      cases hb : betP (nthP (E'.map TE.pl) (k + 1)) (nthP (E'.map TE.pl) (k / 2)) with
      | false =>
        have HQ := hid (hp_less hM.out HLn.out (k + 1) (k / 2) HKn.out HI.out.2 ((k + 1 : Nat) : Int) ((k : Int) / 2) rfl (by omega) false hb)
        have HR := hid ((upP_stop (f' + 1) (E'.map TE.pl) (k + 1) (fun _ => by rw [HI.out.1]; exact hb)).symm.trans hF.out.1)
        clear hb
        go_wp2_with (go_at_call 91; refine HQ.out.mono ?_; rintro e w3 ⟨rfl, q3, rfl⟩)
        go_end0
        exact ⟨rfl, ⟨E', hM.out.drew q3, HR.out, hE.out.1, hE.out.2⟩, he.out.drewN q3⟩
      | true =>
        have HQ := hid (hp_less hM.out HLn.out (k + 1) (k / 2) HKn.out HI.out.2 ((k + 1 : Nat) : Int) ((k : Int) / 2) rfl (by omega) true hb)
        have HG := hid ((upP_go f' (E'.map TE.pl) (k + 1) (by omega) (by rw [HI.out.1]; exact hb)).symm.trans hF.out.1)
        rw [HI.out.1] at HG
        clear hb
        go_wp2_with (go_at_call 91; refine HQ.out.mono ?_; rintro e w3 ⟨rfl, q3, rfl⟩)
        refine (hp_swap (hM.out.drew q3) HTG.out HLn.out HSE.out (k / 2) (k + 1) HI.out.2 HKn.out ((k : Int) / 2) ((k + 1 : Nat) : Int) (by omega) rfl).mono ?_
        rintro e w4 ⟨rfl, hm4, he4⟩
        have HM4 := hid hm4
        have HE4 := hid ((he.out.drewN q3).trans he4)
        clear hm4 he4
        go_wp2_with fail
        go_roundw
        case rel => exact ⟨k / 2, f', swpE E' (k / 2) (k + 1), val_int (by omega), by have := hK.out; show k / 2 < E.length; omega, HM4.out, ⟨by rw [swpE_pl]; exact HG.out, by have := hF.out.2; omega⟩, ⟨by rw [swpE_len]; exact hE.out.1, fun e h => hE.out.2 e (swpE_mem HI.out.2 HKn.out e h)⟩, HE4.out⟩
        case measure => simp [intOf]; omega
end Go.Proofs.Ytmdmolofiblbmaa
