/- A heap of trees: heap.Push. -/
import Derived.Test.YtmdmolofiblbmaaHy
namespace Go.Proofs.Ytmdmolofiblbmaa
open Go.RowKit
set_option linter.unusedVariables false

set_option maxRecDepth 20000 in
set_option maxHeartbeats 1600000 in
/-- heap.Push where the row has room. -/
theorem push_any (T G c : Nat) (E : List TE) (x l : Int) (yo : Option Addr) (yn yc : Nat) (s : List Int) (w : World) (hTG : T ≠ G) (hl : E.length < 1000) (hc : E.length < c) (h : HpM w T G c E) (hS : ∀ e ∈ E, ∃ a n c, e.y = .slice a n c) :
    Calls Try.prog 63 #[.iface 88 (.pointer (some ⟨T, 0, none⟩)), .iface 86 (.agg #[.int .i64 x, .int .i64 l, .slice yo yn yc])] w fun e w' => e = .returned (.tuple #[]) ∧ ∃ E2, HpM w' T G c E2 ∧ E2.map TE.pl = pushH (E.map TE.pl) (x, l, s) ∧ E2.length = E.length + 1 ∧ (∀ e ∈ E2, e ∈ E ∨ e = (x, l, .slice yo yn yc, s)) ∧ Ef2 T G w w' := by
  obtain ⟨m, hm⟩ : ∃ m, m = E.length := ⟨_, rfl⟩
  have kb : (m : Int) ≤ 999 := by omega
  have k0 : (0 : Int) ≤ (m : Int) := by omega
  have hlm : ((m + 1 : Nat) : Int) - 1 = (m : Int) := by omega
  have HP : Hid (Calls Try.prog 94 #[.pointer (some ⟨T, 0, none⟩), .iface 86 (.agg #[.int .i64 x, .int .i64 l, .slice yo yn yc])] w fun e w1 => e = .returned (.tuple #[]) ∧ (method 231 88 (.pointer (some ⟨T, 0, none⟩)) "Len").run Try.prog w1 = .ok (60, .slice (some ⟨G, 0, none⟩) (m + 1) c) w1 ∧ Hid (∃ E1, E1 = E ++ [(x, l, Value.slice yo yn yc, s)] ∧ HpM w1 T G c E1 ∧ Ef2 T G w w1)) := by
    refine (pushm_any T G c E x l yo yn yc s w hTG (by omega) hc h).mono ?_
    rintro e w1 ⟨h1, h2, h3⟩
    have hc1 := h2.1.cell (i := 0) rfl
    have HMN := method_len ⟨T, 0, none⟩ (.slice (some ⟨G, 0, none⟩) (E ++ [(x, l, Value.slice yo yn yc, s)]).length c) w1 hc1
    rw [List.length_append, List.length_singleton, ← hm] at HMN
    exact ⟨h1, HMN, _, rfl, h2, h3⟩
  have HMP := method_push
  have HL := hid hl
  have HS := hid hS
  have HTG := hid hTG
  have HM := hid hm
  clear h hl hc hS hTG hm
  go_enter Try.func63, Try.ntmps63
  go_wp2_with (first | (go_at_call 94; refine HP.out.mono ?_; rintro e w1 ⟨rfl, HMN, HZ⟩) | (go_at_call 60; refine (len_any _ _ _ _).mono ?_; rintro e w2 ⟨rfl, rfl⟩) | fail)
  obtain ⟨E1, hE1, hm1, he1⟩ := HZ.out
  have hn1 : E1.length = m + 1 := by rw [hE1, HM.out]; simp
  have HS1 : Hid (∀ e ∈ E1, ∃ a n c, e.y = .slice a n c) := hid (fun e he => by
    rw [hE1] at he
    rcases List.mem_append.1 he with he | he
    · exact HS.out e he
    · rw [List.mem_singleton.1 he]; exact ⟨yo, yn, yc, rfl⟩)
  refine (up_any T G c E1 m _ HTG.out (by omega) (by have := HL.out; have := HM.out; omega) hm1 HS1.out).mono ?_
  rintro e w3 ⟨rfl, ⟨E2, hm3, hp3, hl3, hs3⟩, he3⟩
  have HR := hid (show ∃ E2, HpM w3 T G c E2 ∧ E2.map TE.pl = pushH (E.map TE.pl) (x, l, s) ∧ E2.length = E.length + 1 ∧ (∀ e ∈ E2, e ∈ E ∨ e = (x, l, .slice yo yn yc, s)) ∧ Ef2 T G w w3 from by
    refine ⟨E2, hm3, ?_, by rw [hl3, hn1, HM.out], fun e he => ?_, he1.trans (he3.toR T)⟩
    · rw [hp3, hn1, hE1, HM.out, List.map_append]
      unfold pushH
      rw [List.length_map]
      rfl
    · have := hs3 e he
      rw [hE1] at this
      rcases List.mem_append.1 this with h | h
      · exact .inl h
      · exact .inr (List.mem_singleton.1 h))
  clear hm3 hp3 hl3 hs3 he3 hm1 he1 hE1 hn1 HS1
  go_wp2_with fail
  go_end0
  exact ⟨rfl, HR.out⟩
end Go.Proofs.Ytmdmolofiblbmaa
