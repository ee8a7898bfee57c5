/- A heap of trees: heap.Pop. -/
import Derived.Test.YtmdmolofiblbmaaHw
namespace Go.Proofs.Ytmdmolofiblbmaa
open Go.RowKit
set_option linter.unusedVariables false

/-- Of what was there only blocks B and C may have turned. -/
structure Ef2 (B C : Nat) (w w' : World) : Prop where
  os : w'.os = w.os
  tape : w'.tape = w.tape
  output : w'.output = w.output
  size : w.heap.size ≤ w'.heap.size
  block : ∀ k, k < w.heap.size → k ≠ B → k ≠ C → w'.heap[k]? = w.heap[k]?
theorem Ef2.trans {B C : Nat} {a b c : World} (h : Ef2 B C a b) (k : Ef2 B C b c) : Ef2 B C a c :=
  ⟨k.os.trans h.os, k.tape.trans h.tape, k.output.trans h.output, Nat.le_trans h.size k.size, fun g hg h1 h2 => (k.block g (Nat.lt_of_lt_of_le hg h.size) h1 h2).trans (h.block g hg h1 h2)⟩
theorem Ef.toL {B : Nat} (C : Nat) {w w' : World} (h : Ef B w w') : Ef2 B C w w' := ⟨h.os, h.tape, h.output, h.size, fun k hk h1 _ => h.block k hk (fun e => h1 (Option.some.inj e))⟩
theorem Ef.toR {C : Nat} (B : Nat) {w w' : World} (h : Ef C w w') : Ef2 B C w w' := ⟨h.os, h.tape, h.output, h.size, fun k hk _ h1 => h.block k hk (fun e => h1 (Option.some.inj e))⟩
theorem Blk.ef2 {w w' : World} {B C b : Nat} {l : List Value} {t : TypeId} (h : Blk w b l t) (he : Ef2 B C w w') (h1 : b ≠ B) (h2 : b ≠ C) : Blk w' b l t := (he.block b h.lt h1 h2).trans h

set_option maxRecDepth 20000 in
set_option maxHeartbeats 1600000 in
/-- heap.Pop. -/
theorem pop_any (T G c : Nat) (E : List TE) (m : Nat) (w : World) (hTG : T ≠ G) (hm : E.length = m + 1) (hl : E.length ≤ 1000) (hc : E.length ≤ c) (h : HpM w T G c E) (hS : ∀ e ∈ E, ∃ a n c, e.y = .slice a n c) :
    Calls Try.prog 61 #[.iface 88 (.pointer (some ⟨T, 0, none⟩))] w fun e w' => ∃ E2, e = .returned (.iface 86 (.agg #[.int .i64 (nthE E2 m).w, .int .i64 (nthE E2 m).l, (nthE E2 m).y])) ∧ E2.map TE.pl = popS (E.map TE.pl) ∧ E2.length = E.length ∧ (∀ e ∈ E2, e ∈ E) ∧ HpM w' T G c (E2.take m) ∧ Ef2 T G w w' := by
  have kb : (m : Int) ≤ 999 := by omega
  have k0 : (0 : Int) ≤ (m : Int) := by omega
  have hlm : ((m + 1 : Nat) : Int) - 1 = (m : Int) := by omega
  have hc0 := h.1.cell (i := 0) rfl
  have HMN := method_len ⟨T, 0, none⟩ (.slice (some ⟨G, 0, none⟩) E.length c) w hc0
  have HMS : ∀ q, q.cell? ⟨T, 0, none⟩ = some (.slice (some ⟨G, 0, none⟩) E.length c) → (method 231 88 (.pointer (some ⟨T, 0, none⟩)) "Swap").run Try.prog q = .ok (92, .slice (some ⟨G, 0, none⟩) E.length c) q := fun q hq => method_swap _ _ q hq
  have HMP := method_pop
  have HSW := hid (hp_swap h hTG hl hS 0 m (by omega) (by omega) 0 (m : Int) rfl rfl)
  rw [hm] at HMN HMS
  rw [hm] at hc0
  have HSW2 : Hid (Calls Try.prog 92 #[.slice (some ⟨G, 0, none⟩) (m + 1) c, .int .i64 0, .int .i64 (m : Int)] w fun e w' => e = .returned (.tuple #[]) ∧ HpM w' T G c (swpE E 0 m) ∧ Ef G w w') := hid (by have := HSW.out; rw [hm] at this; exact this)
  have HS1 := hid (show (∀ e ∈ swpE E 0 m, ∃ a n c, e.y = .slice a n c) ∧ (∀ e ∈ swpE E 0 m, e ∈ E) from ⟨fun e he => hS e (swpE_mem (by omega) (by omega) e he), fun e he => swpE_mem (by omega) (by omega) e he⟩)
  have HTG := hid hTG
  have HL1 := hid (swpE_len E 0 m)
  clear HSW hTG
  have HL := hid hl
  have HC := hid hc
  have HS := hid hS
  have HM := hid hm
  clear h hm hl hc hS
  go_enter Try.func61, Try.ntmps61
  go_wp2_with (first | (go_at_call 60; refine (len_any _ _ _ _).mono ?_; rintro e w1 ⟨rfl, rfl⟩) | fail)
  refine HSW2.out.mono ?_
  rintro e w2 ⟨rfl, hm2, he2⟩
  have HD := hid (down_any T G c (swpE E 0 m) 0 m w2 HTG.out (by decide) (by rw [HL1.out, HM.out]; omega) (by rw [HL1.out]; exact HL.out) hm2 HS1.out.1)
  have HE2 := hid he2
  clear hm2 he2
  go_wp2_with (first | (go_at_call 69; refine HD.out.mono ?_; rintro e w3 ⟨r, rfl, ⟨E2, hm3, hp3, hl3, hs3⟩, he3⟩) | fail)
  refine (popm_any T G c E2 m w3 HTG.out (by rw [hl3, HL1.out]; exact HM.out) (by rw [hl3, HL1.out]; exact HL.out) (by rw [hl3, HL1.out]; exact HC.out) hm3 (fun e he => HS1.out.1 e (hs3 e he))).mono ?_
  rintro e w4 ⟨rfl, hm4, he4⟩
  have HX := hid (show E2.map TE.pl = popS (E.map TE.pl) ∧ E2.length = E.length ∧ (∀ e ∈ E2, e ∈ E) ∧ HpM w4 T G c (E2.take m) ∧ Ef2 T G w1 w4 from ⟨by
    unfold popS
    rw [hp3, HL1.out, swpE_pl, List.length_map, HM.out]
    rfl, by rw [hl3, HL1.out], fun e he => HS1.out.2 e (hs3 e he), hm4, ((HE2.out.trans he3).toR T).trans (he4.toL G)⟩)
  clear hm3 hp3 hl3 hs3 he3 hm4 he4 HD
  go_wp2_with fail
  go_ret
  exact ⟨E2, rfl, HX.out⟩
end Go.Proofs.Ytmdmolofiblbmaa
