/- A heap of trees: Len, Init. -/
import Derived.Test.YtmdmolofiblbmaaHu
namespace Go.Proofs.Ytmdmolofiblbmaa
open Go.RowKit
set_option linter.unusedVariables false

/-- treeHeap.Len. -/
theorem len_any (a : Option Addr) (n c : Nat) (w : World) :
    Calls Try.prog 60 #[.slice a n c] w fun e w' => e = .returned (.int .i64 (n : Int)) ∧ w' = w := by
  go_enter Try.func60, Try.ntmps60
  go_wp2_with fail
  go_ret
  exact ⟨rfl, rfl⟩

set_option maxRecDepth 20000 in
set_option maxHeartbeats 1600000 in
/-- heap.Init. -/
theorem init_any (T G c : Nat) (E : List TE) (w : World) (hTG : T ≠ G) (hl : E.length ≤ 1000) (h : HpM w T G c E) (hS : ∀ e ∈ E, ∃ a n c, e.y = .slice a n c) :
    Calls Try.prog 59 #[.iface 88 (.pointer (some ⟨T, 0, none⟩))] w fun e w' => e = .returned (.tuple #[]) ∧ (∃ E', HpM w' T G c E' ∧ E'.map TE.pl = initH (E.length / 2) (E.map TE.pl) ∧ E'.length = E.length ∧ ∀ e ∈ E', e ∈ E) ∧ Ef G w w' := by
  have kb : (E.length : Int) ≤ 1000 := by omega
  have k0 : (0 : Int) ≤ (E.length : Int) := by omega
  have H := hid h
  have HS := hid hS
  have HL := hid hl
  have HTG := hid hTG
  have hc0 := h.1.cell (i := 0) rfl
  have HMN := method_len ⟨T, 0, none⟩ (.slice (some ⟨G, 0, none⟩) E.length c) w hc0
  clear h hS hl hTG
  go_enter Try.func59, Try.ntmps59
  go_wp2_with (go_at_call 60; refine (len_any _ _ _ _).mono ?_; rintro e w1 ⟨rfl, rfl⟩)
  go_loopw [3] (fun k wr => ∃ (m : Nat) (E' : List TE), k = .int .i64 ((m : Int) - 1) ∧ Hid (m ≤ E.length / 2) ∧ Hid (HpM wr T G c E') ∧ Hid (initH m (E'.map TE.pl) = initH (E.length / 2) (E.map TE.pl)) ∧ Hid (E'.length = E.length ∧ ∀ e ∈ E', e ∈ E) ∧ Hid (Ef G w1 wr)) (fun k _ => (intOf k + 1).toNat)
  case atStart => exact ⟨E.length / 2, E, by simp, hid (Nat.le_refl _), H.out, hid rfl, hid ⟨rfl, fun e he => he⟩, hid (Ef.refl _ _)⟩
  case round =>
    obtain ⟨m, E', rfl, hK, hM, hF, hE, he⟩ := hrel
    have mb : (m : Int) ≤ 1000 := by have := hK.out; have := HL.out; omega
    cases m with
    | zero =>
      go_wp2_with fail
      go_end0
      exact ⟨rfl, ⟨E', hM.out, hF.out, hE.out.1, hE.out.2⟩, he.out⟩
    | succ k =>
      have HLn : Hid (E'.length ≤ 1000) := hid (by rw [hE.out.1]; exact HL.out)
      have HSE : Hid (∀ e ∈ E', ∃ a n c, e.y = .slice a n c) := hid (fun e h => HS.out e (hE.out.2 e h))
      have hk1 : (((k + 1 : Nat) : Int) - 1) = (k : Int) := by omega
      have HD := hid (down_any T G c E' k E.length _ HTG.out (by have := hK.out; have := HL.out; omega) (by rw [hE.out.1]; exact Nat.le_refl _) HLn.out hM.out HSE.out)
      rw [hk1]
      have kb2 : (k : Int) ≤ 999 := by omega
      have k02 : (0 : Int) ≤ (k : Int) := by omega
      clear mb
      go_wp2_with (go_at_call 69; refine HD.out.mono ?_; rintro e w4 ⟨r, rfl, ⟨E2, hm4, hp4, hl4, hs4⟩, he4⟩)
      have HQ : Hid (initH k (E2.map TE.pl) = initH (E.length / 2) (E.map TE.pl)) := hid (by
        rw [← hF.out, initH, hp4, List.length_map, hE.out.1])
      exact ⟨⟨k, E2, rfl, hid (by have := hK.out; omega), hid hm4, HQ, hid ⟨by rw [hl4]; exact hE.out.1, fun e h => hE.out.2 e (hs4 e h)⟩, hid (he.out.trans he4)⟩, by simp [intOf]⟩
end Go.Proofs.Ytmdmolofiblbmaa
