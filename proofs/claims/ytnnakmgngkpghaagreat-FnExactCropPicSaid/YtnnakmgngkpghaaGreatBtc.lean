/- Texts joined: Hu, Hv, Hw, Hx, Hy, Hz, Ga, Ca, Aw, Hq, Bk, Bl. No statement is proved here. -/
import Derived.Test.YtnnakmgngkpghaaGreatBtb
import Derived.ArgAppend
import Derived.Shelf.Spec.SlicesGrow
import Derived.Deep.WholeRow
import Derived.Test.YtnnakmgngkpghaaGreatBta
import Derived.Deep.CutRange

/- A heap of trees: up, Init. -/
namespace Go.Proofs.YtnnakmgngkpghaaGreat
open Go.RowKit
set_option linter.unusedVariables false

theorem upP_stop (f : Nat) (S : List PT) (j : Nat) (h : 0 < j → betP (nthT S j) (nthT S ((j - 1) / 2)) = false) : upP f S j = S := by
  cases f with
  | zero => rfl
  | succ f =>
    rw [upP]
    split
    · rename_i h0
      rw [h h0, if_neg (by decide)]
    · rfl
theorem upP_go (f : Nat) (S : List PT) (j : Nat) (h0 : 0 < j) (h : betP (nthT S j) (nthT S ((j - 1) / 2)) = true) : upP (f + 1) S j = upP f (swp S ((j - 1) / 2) j) ((j - 1) / 2) := by rw [upP, if_pos h0, if_pos h]

set_option maxRecDepth 20000 in
set_option maxHeartbeats 1600000 in
theorem up_any (T G c : Nat) (E : List TE) (j : Nat) (w : World) (hTG : T ≠ G) (hj : j < E.length) (hl : E.length ≤ 1000) (h : HpM w T G c E) (hS : ∀ e ∈ E, ∃ a n c, e.y = .slice a n c) :
    Calls Tryz.prog 132 #[.iface 157 (.pointer (some ⟨T, 0, none⟩)), .int .i64 (j : Int)] w fun e w' => e = .returned (.tuple #[]) ∧ (∃ E', HpM w' T G c E' ∧ E'.map TE.pl = upP E.length (E.map TE.pl) j ∧ E'.length = E.length ∧ ∀ e ∈ E', e ∈ E) ∧ Ef G w w' := by
  have H := hid h
  have HS := hid hS
  have HJ := hid hj
  have HL := hid hl
  have HTG := hid hTG
  clear h hS hj hl hTG
  go_enter Tryz.func132, Tryz.ntmps132
  go_wp2_with fail
  go_loopw [1] (fun k wr => ∃ (K f : Nat) (E' : List TE), k = .int .i64 (K : Int) ∧ Hid (K < E.length) ∧ Hid (HpM wr T G c E') ∧ Hid (upP f (E'.map TE.pl) K = upP E.length (E.map TE.pl) j ∧ K < f) ∧ Hid (E'.length = E.length ∧ ∀ e ∈ E', e ∈ E) ∧ Hid (Ef G w wr)) (fun k _ => (intOf k).toNat)
  case atStart => exact ⟨j, E.length, E, rfl, HJ.out, H.out, ⟨rfl, HJ.out⟩, ⟨rfl, fun e he => he⟩, Ef.refl _ _⟩
  case round =>
    obtain ⟨K, f, E', rfl, hK, hM, hF, hE, he⟩ := hrel
    have kb : (K : Int) ≤ 1000 := by have := hK.out; have := HL.out; omega
    have hc0 := hM.out.1.cell (i := 0) rfl
    have HML : ∀ q, q.cell? ⟨T, 0, none⟩ = some (.slice (some ⟨G, 0, none⟩) E'.length c) → (method 299 157 (.pointer (some ⟨T, 0, none⟩)) "Less").run Tryz.prog q = .ok (155, .slice (some ⟨G, 0, none⟩) E'.length c) q := fun q hq => method_less _ _ q hq
    have HMS : ∀ q, q.cell? ⟨T, 0, none⟩ = some (.slice (some ⟨G, 0, none⟩) E'.length c) → (method 299 157 (.pointer (some ⟨T, 0, none⟩)) "Swap").run Tryz.prog q = .ok (156, .slice (some ⟨G, 0, none⟩) E'.length c) q := fun q hq => method_swap _ _ q hq
    have HLn : Hid (E'.length ≤ 1000) := hid (by rw [hE.out.1]; exact HL.out)
    have HKn : Hid (K < E'.length) := hid (by rw [hE.out.1]; exact hK.out)
    have HSE : Hid (∀ e ∈ E', ∃ a n c, e.y = .slice a n c) := hid (fun e h => HS.out e (hE.out.2 e h))
    cases K with
    | zero =>
      have HR := hid ((upP_stop f (E'.map TE.pl) 0 (fun h => absurd h (by decide))).symm.trans hF.out.1)
      go_wp2_with fail
      go_end0
      exact ⟨rfl, ⟨E', hM.out, HR.out, hE.out.1, hE.out.2⟩, he.out⟩
    | succ k =>
      have hk1 : (((k + 1 : Nat) : Int) - 1) = (k : Int) := by omega
      have hne : (((k : Int) / 2) == ((k + 1 : Nat) : Int)) = false := by simp; omega
      have HI := hid (show (k + 1 - 1) / 2 = k / 2 ∧ k / 2 < E'.length from ⟨by omega, by have := HKn.out; omega⟩)
      obtain ⟨f', rfl⟩ : ∃ f', f = f' + 1 := ⟨f - 1, by have := hF.out.2; omega⟩
      cases hb : betP (nthT (E'.map TE.pl) (k + 1)) (nthT (E'.map TE.pl) (k / 2)) with
      | false =>
        have HQ := hid (hp_less hM.out HLn.out (k + 1) (k / 2) HKn.out HI.out.2 ((k + 1 : Nat) : Int) ((k : Int) / 2) rfl (by omega) false hb)
        have HR := hid ((upP_stop (f' + 1) (E'.map TE.pl) (k + 1) (fun _ => by rw [HI.out.1]; exact hb)).symm.trans hF.out.1)
        clear hb
        go_wp2_with (go_at_call 155; refine HQ.out.mono ?_; rintro e w3 ⟨rfl, q3, rfl⟩)
        go_end0
        exact ⟨rfl, ⟨E', hM.out.drew q3, HR.out, hE.out.1, hE.out.2⟩, he.out.drewN q3⟩
      | true =>
        have HQ := hid (hp_less hM.out HLn.out (k + 1) (k / 2) HKn.out HI.out.2 ((k + 1 : Nat) : Int) ((k : Int) / 2) rfl (by omega) true hb)
        have HG := hid ((upP_go f' (E'.map TE.pl) (k + 1) (by omega) (by rw [HI.out.1]; exact hb)).symm.trans hF.out.1)
        rw [HI.out.1] at HG
        clear hb
        go_wp2_with (go_at_call 155; refine HQ.out.mono ?_; rintro e w3 ⟨rfl, q3, rfl⟩)
        refine (hp_swap (hM.out.drew q3) HTG.out HLn.out HSE.out (k / 2) (k + 1) HI.out.2 HKn.out ((k : Int) / 2) ((k + 1 : Nat) : Int) (by omega) rfl).mono ?_
        rintro e w4 ⟨rfl, hm4, he4⟩
        have HM4 := hid hm4
        have HE4 := hid ((he.out.drewN q3).trans he4)
        clear hm4 he4
        go_wp2_with fail
        go_roundw
        case rel => exact ⟨k / 2, f', swpE E' (k / 2) (k + 1), val_int (by omega), by have := hK.out; show k / 2 < E.length; omega, HM4.out, ⟨by rw [swpE_pl]; exact HG.out, by have := hF.out.2; omega⟩, ⟨by rw [swpE_len]; exact hE.out.1, fun e h => hE.out.2 e (swpE_mem HI.out.2 HKn.out e h)⟩, HE4.out⟩
        case measure => simp [intOf]; omega
end Go.Proofs.YtnnakmgngkpghaaGreat

/- A heap of trees: Len, Init. -/
namespace Go.Proofs.YtnnakmgngkpghaaGreat
open Go.RowKit
set_option linter.unusedVariables false

/-- treeHeap.Len. -/
theorem len_any (a : Option Addr) (n c : Nat) (w : World) :
    Calls Tryz.prog 120 #[.slice a n c] w fun e w' => e = .returned (.int .i64 (n : Int)) ∧ w' = w := by
  go_enter Tryz.func120, Tryz.ntmps120
  go_wp2_with fail
  go_ret
  exact ⟨rfl, rfl⟩

set_option maxRecDepth 20000 in
set_option maxHeartbeats 1600000 in
/-- heap.Init. -/
theorem init_any (T G c : Nat) (E : List TE) (w : World) (hTG : T ≠ G) (hl : E.length ≤ 1000) (h : HpM w T G c E) (hS : ∀ e ∈ E, ∃ a n c, e.y = .slice a n c) :
    Calls Tryz.prog 119 #[.iface 157 (.pointer (some ⟨T, 0, none⟩))] w fun e w' => e = .returned (.tuple #[]) ∧ (∃ E', HpM w' T G c E' ∧ E'.map TE.pl = initH (E.length / 2) (E.map TE.pl) ∧ E'.length = E.length ∧ ∀ e ∈ E', e ∈ E) ∧ Ef G w w' := by
  have kb : (E.length : Int) ≤ 1000 := by omega
  have k0 : (0 : Int) ≤ (E.length : Int) := by omega
  have H := hid h
  have HS := hid hS
  have HL := hid hl
  have HTG := hid hTG
  have hc0 := h.1.cell (i := 0) rfl
  have HMN := method_len ⟨T, 0, none⟩ (.slice (some ⟨G, 0, none⟩) E.length c) w hc0
  clear h hS hl hTG
  go_enter Tryz.func119, Tryz.ntmps119
  go_wp2_with (go_at_call 120; refine (len_any _ _ _ _).mono ?_; rintro e w1 ⟨rfl, rfl⟩)
  go_loopw [3] (fun k wr => ∃ (m : Nat) (E' : List TE), k = .int .i64 ((m : Int) - 1) ∧ Hid (m ≤ E.length / 2) ∧ Hid (HpM wr T G c E') ∧ Hid (initH m (E'.map TE.pl) = initH (E.length / 2) (E.map TE.pl)) ∧ Hid (E'.length = E.length ∧ ∀ e ∈ E', e ∈ E) ∧ Hid (Ef G w1 wr)) (fun k _ => (intOf k + 1).toNat)
  case atStart => exact ⟨E.length / 2, E, by simp, hid (Nat.le_refl _), H.out, hid rfl, hid ⟨rfl, fun e he => he⟩, hid (Ef.refl _ _)⟩
  case round =>
    obtain ⟨m, E', rfl, hK, hM, hF, hE, he⟩ := hrel
    have mb : (m : Int) ≤ 1000 := by have := hK.out; have := HL.out; omega
    cases m with
    | zero =>
      go_wp2_with fail
      go_end0
      exact ⟨rfl, ⟨E', hM.out, hF.out, hE.out.1, hE.out.2⟩, he.out⟩
    | succ k =>
      have HLn : Hid (E'.length ≤ 1000) := hid (by rw [hE.out.1]; exact HL.out)
      have HSE : Hid (∀ e ∈ E', ∃ a n c, e.y = .slice a n c) := hid (fun e h => HS.out e (hE.out.2 e h))
      have hk1 : (((k + 1 : Nat) : Int) - 1) = (k : Int) := by omega
      have HD := hid (down_any T G c E' k E.length _ HTG.out (by have := hK.out; have := HL.out; omega) (by rw [hE.out.1]; exact Nat.le_refl _) HLn.out hM.out HSE.out)
      rw [hk1]
      have kb2 : (k : Int) ≤ 999 := by omega
      have k02 : (0 : Int) ≤ (k : Int) := by omega
      clear mb
      go_wp2_with (go_at_call 130; refine HD.out.mono ?_; rintro e w4 ⟨r, rfl, ⟨E2, hm4, hp4, hl4, hs4⟩, he4⟩)
      have HQ : Hid (initH k (E2.map TE.pl) = initH (E.length / 2) (E.map TE.pl)) := hid (by
        rw [← hF.out, initH, hp4, List.length_map, hE.out.1])
      exact ⟨⟨k, E2, rfl, hid (by have := hK.out; omega), hid hm4, HQ, hid ⟨by rw [hl4]; exact hE.out.1, fun e h => hE.out.2 e (hs4 e h)⟩, hid (he.out.trans he4)⟩, by simp [intOf]⟩
end Go.Proofs.YtnnakmgngkpghaaGreat

/- A heap of trees: Pop. -/
namespace Go.Proofs.YtnnakmgngkpghaaGreat
open Go.RowKit
set_option linter.unusedVariables false

theorem Ef.alloc {C : Nat} (w : World) (vs : Array Value) (u : TypeId) : Ef C w (w.alloc (.cells vs u)) :=
  ⟨rfl, rfl, rfl, by unfold World.alloc; simp only [Array.size_push]; omega, fun k hk _ => by
    unfold World.alloc
    simp only []
    rw [Array.getElem?_push_lt hk, ← Array.getElem?_eq_getElem]⟩
theorem flE_takeL : ∀ (E : List TE) (m : Nat), flE (E.take m) = (flE E).take (m * 3)
  | [], m => by simp [flE]
  | x :: E, 0 => by simp [flE]
  | x :: E, m + 1 => by
    have ih := flE_takeL E m
    have hc : ∀ (y : TE) (R : List TE), flE (y :: R) = .int .i64 y.w :: .int .i64 y.l :: y.y :: flE R := fun y R => by simp [flE]
    have e1 : (m + 1) * 3 = m * 3 + 1 + 1 + 1 := by omega
    rw [List.take_succ_cons, hc, hc, ih, e1, List.take_succ_cons, List.take_succ_cons, List.take_succ_cons]
theorem RowT.take {w : World} {G : Nat} {cur : List Value} {E : List TE} (h : RowT w G cur E) (m : Nat) (hm : m ≤ E.length) : RowT w G cur (E.take m) := by
  refine ⟨h.1, ?_, ?_⟩
  · rw [flE_takeL, ← h.2.1, List.take_take, List.length_take]
    congr 1
    omega
  · have := h.2.2
    rw [List.length_take]
    omega

set_option maxRecDepth 20000 in
set_option maxHeartbeats 1600000 in
/-- treeHeap.Pop. -/
theorem popm_any (T G c : Nat) (E : List TE) (m : Nat) (w : World) (hTG : T ≠ G) (hm : E.length = m + 1) (hl : E.length ≤ 1000) (hc : E.length ≤ c) (h : HpM w T G c E) (hS : ∀ e ∈ E, ∃ a n c, e.y = .slice a n c) :
    Calls Tryz.prog 159 #[.pointer (some ⟨T, 0, none⟩)] w fun e w' => e = .returned (.iface 155 (.agg #[.int .i64 (nthE E m).w, .int .i64 (nthE E m).l, (nthE E m).y])) ∧ HpM w' T G c (E.take m) ∧ Ef T w w' := by
  obtain ⟨hT, cur, hcl, hr⟩ := h
  obtain ⟨a0, a1, a2⟩ := hr.at m (by omega)
  have c0 := hr.1.cell a0
  have c1 := hr.1.cell a1
  have c2 := hr.1.cell a2
  have hT0 := hT.cell (i := 0) rfl
  have hTf := hT.free 0
  have hTA : ∀ (vs : Array Value) (u : TypeId), Blk (w.alloc (.cells vs u)) T [.slice (some ⟨G, 0, none⟩) E.length c] 136 := fun vs u => by
    have := hT.lt
    unfold Blk World.alloc
    simp only []
    rw [Array.getElem?_push_lt this, ← Array.getElem?_eq_getElem]
    exact hT
  have hTc : ∀ (vs : Array Value) (u : TypeId), (w.alloc (.cells vs u)).cell? ⟨T, 0, none⟩ = some (.slice (some ⟨G, 0, none⟩) (m + 1) c) := fun vs u => by
    rw [← hm]; exact (hTA vs u).cell (i := 0) rfl
  have hTg : ∀ (vs : Array Value) (u : TypeId), (w.alloc (.cells vs u)).frozen? ⟨T, 0, none⟩ = false := fun vs u => (hTA vs u).free 0
  have hmc : (m : Int) ≤ (c : Int) := by omega
  have hTn : ¬ w.heap.size = T := fun e => by have := hT.lt; omega
  have hTn2 : ¬ T = w.heap.size := fun e => hTn e.symm
  have hN : ∀ (vs : List Value) (u : TypeId) (v x : Value) (i : Nat), vs[i]? = some x → ((w.alloc (.cells vs.toArray u)).setCell ⟨T, 0, none⟩ v).cell? ⟨w.heap.size, i, none⟩ = some x := fun vs u v x i hx => by
    have hb : Blk (w.alloc (.cells vs.toArray u)) w.heap.size vs u := by unfold Blk World.alloc; simp
    exact (hb.otherB hTn v).cell hx
  have hN0 : ∀ (p q r v : Value) (u : TypeId), ((w.alloc (.cells #[p, q, r] u)).setCell ⟨T, 0, none⟩ v).cell? ⟨w.heap.size, 0, none⟩ = some p := fun p q r v u => hN [p, q, r] u v p 0 rfl
  have hN1 : ∀ (p q r v : Value) (u : TypeId), ((w.alloc (.cells #[p, q, r] u)).setCell ⟨T, 0, none⟩ v).cell? ⟨w.heap.size, 1, none⟩ = some q := fun p q r v u => hN [p, q, r] u v q 1 rfl
  have hN2 : ∀ (p q r v : Value) (u : TypeId), ((w.alloc (.cells #[p, q, r] u)).setCell ⟨T, 0, none⟩ v).cell? ⟨w.heap.size, 2, none⟩ = some r := fun p q r v u => hN [p, q, r] u v r 2 rfl
  clear hN
  have kb : (m : Int) ≤ 999 := by omega
  have k0 : (0 : Int) ≤ (m : Int) := by omega
  have hlm : ((m + 1 : Nat) : Int) - 1 = (m : Int) := by omega
  rw [hm] at hT0
  obtain ⟨oy, ny, cy, ey⟩ := hS _ (nthE_inE (k := m) (by omega))
  rw [ey] at c2
  rw [ey]
  generalize (nthE E m).w = wm at *
  generalize (nthE E m).l = lm at *
  have HT := hid hT
  have HR := hid hr
  have HM := hid hm
  clear hT hr hm hl a0 a1 a2
  go_enter Tryz.func159, Tryz.ntmps159
  go_wp2_with fail
  go_ret
  have hE : ∀ (vs : Array Value) (u : TypeId) (v : Value), Ef T w ((w.alloc (.cells vs u)).setCell ⟨T, 0, none⟩ v) := fun vs u v => (Ef.alloc w vs u).trans (Ef.set _ _ _)
  refine ⟨rfl, ⟨?_, cur, hcl, RowT.take (E := E) ⟨HR.out.1.ef (hE _ _ _) (fun e => hTG e.symm), HR.out.2⟩ m (by have := HM.out; omega)⟩, hE _ _ _⟩
  have hlt : (E.take m).length = m := by have := HM.out; rw [List.length_take]; omega
  rw [hlt]
  exact (hTA _ _).set 0 _
end Go.Proofs.YtnnakmgngkpghaaGreat

/- A heap of trees: heap.Pop. -/
namespace Go.Proofs.YtnnakmgngkpghaaGreat
open Go.RowKit
set_option linter.unusedVariables false

/-- Of what was there only blocks B and C may have turned. -/
structure Ef2 (B C : Nat) (w w' : World) : Prop where
  os : w'.os = w.os
  tape : w'.tape = w.tape
  output : w'.output = w.output
  size : w.heap.size ≤ w'.heap.size
  block : ∀ k, k < w.heap.size → k ≠ B → k ≠ C → w'.heap[k]? = w.heap[k]?
theorem Ef2.trans {B C : Nat} {a b c : World} (h : Ef2 B C a b) (k : Ef2 B C b c) : Ef2 B C a c :=
  ⟨k.os.trans h.os, k.tape.trans h.tape, k.output.trans h.output, Nat.le_trans h.size k.size, fun g hg h1 h2 => (k.block g (Nat.lt_of_lt_of_le hg h.size) h1 h2).trans (h.block g hg h1 h2)⟩
theorem Ef.toL {B : Nat} (C : Nat) {w w' : World} (h : Ef B w w') : Ef2 B C w w' := ⟨h.os, h.tape, h.output, h.size, fun k hk h1 _ => h.block k hk (fun e => h1 (Option.some.inj e))⟩
theorem Ef.toR {C : Nat} (B : Nat) {w w' : World} (h : Ef C w w') : Ef2 B C w w' := ⟨h.os, h.tape, h.output, h.size, fun k hk _ h1 => h.block k hk (fun e => h1 (Option.some.inj e))⟩
theorem Blk.ef2 {w w' : World} {B C b : Nat} {l : List Value} {t : TypeId} (h : Blk w b l t) (he : Ef2 B C w w') (h1 : b ≠ B) (h2 : b ≠ C) : Blk w' b l t := (he.block b h.lt h1 h2).trans h

set_option maxRecDepth 20000 in
set_option maxHeartbeats 1600000 in
/-- heap.Pop. -/
theorem pop_any (T G c : Nat) (E : List TE) (m : Nat) (w : World) (hTG : T ≠ G) (hm : E.length = m + 1) (hl : E.length ≤ 1000) (hc : E.length ≤ c) (h : HpM w T G c E) (hS : ∀ e ∈ E, ∃ a n c, e.y = .slice a n c) :
    Calls Tryz.prog 121 #[.iface 157 (.pointer (some ⟨T, 0, none⟩))] w fun e w' => ∃ E2, e = .returned (.iface 155 (.agg #[.int .i64 (nthE E2 m).w, .int .i64 (nthE E2 m).l, (nthE E2 m).y])) ∧ E2.map TE.pl = popS (E.map TE.pl) ∧ E2.length = E.length ∧ (∀ e ∈ E2, e ∈ E) ∧ HpM w' T G c (E2.take m) ∧ Ef2 T G w w' := by
  have kb : (m : Int) ≤ 999 := by omega
  have k0 : (0 : Int) ≤ (m : Int) := by omega
  have hlm : ((m + 1 : Nat) : Int) - 1 = (m : Int) := by omega
  have hc0 := h.1.cell (i := 0) rfl
  have HMN := method_len ⟨T, 0, none⟩ (.slice (some ⟨G, 0, none⟩) E.length c) w hc0
  have HMS : ∀ q, q.cell? ⟨T, 0, none⟩ = some (.slice (some ⟨G, 0, none⟩) E.length c) → (method 299 157 (.pointer (some ⟨T, 0, none⟩)) "Swap").run Tryz.prog q = .ok (156, .slice (some ⟨G, 0, none⟩) E.length c) q := fun q hq => method_swap _ _ q hq
  have HMP := method_pop
  have HSW := hid (hp_swap h hTG hl hS 0 m (by omega) (by omega) 0 (m : Int) rfl rfl)
  rw [hm] at HMN HMS
  rw [hm] at hc0
  have HSW2 : Hid (Calls Tryz.prog 156 #[.slice (some ⟨G, 0, none⟩) (m + 1) c, .int .i64 0, .int .i64 (m : Int)] w fun e w' => e = .returned (.tuple #[]) ∧ HpM w' T G c (swpE E 0 m) ∧ Ef G w w') := hid (by have := HSW.out; rw [hm] at this; exact this)
  have HS1 := hid (show (∀ e ∈ swpE E 0 m, ∃ a n c, e.y = .slice a n c) ∧ (∀ e ∈ swpE E 0 m, e ∈ E) from ⟨fun e he => hS e (swpE_mem (by omega) (by omega) e he), fun e he => swpE_mem (by omega) (by omega) e he⟩)
  have HTG := hid hTG
  have HL1 := hid (swpE_len E 0 m)
  clear HSW hTG
  have HL := hid hl
  have HC := hid hc
  have HS := hid hS
  have HM := hid hm
  clear h hm hl hc hS
  go_enter Tryz.func121, Tryz.ntmps121
  go_wp2_with (first | (go_at_call 120; refine (len_any _ _ _ _).mono ?_; rintro e w1 ⟨rfl, rfl⟩) | fail)
  refine HSW2.out.mono ?_
  rintro e w2 ⟨rfl, hm2, he2⟩
  have HD := hid (down_any T G c (swpE E 0 m) 0 m w2 HTG.out (by decide) (by rw [HL1.out, HM.out]; omega) (by rw [HL1.out]; exact HL.out) hm2 HS1.out.1)
  have HE2 := hid he2
  clear hm2 he2
  go_wp2_with (first | (go_at_call 130; refine HD.out.mono ?_; rintro e w3 ⟨r, rfl, ⟨E2, hm3, hp3, hl3, hs3⟩, he3⟩) | fail)
  refine (popm_any T G c E2 m w3 HTG.out (by rw [hl3, HL1.out]; exact HM.out) (by rw [hl3, HL1.out]; exact HL.out) (by rw [hl3, HL1.out]; exact HC.out) hm3 (fun e he => HS1.out.1 e (hs3 e he))).mono ?_
  rintro e w4 ⟨rfl, hm4, he4⟩
  have HX := hid (show E2.map TE.pl = popS (E.map TE.pl) ∧ E2.length = E.length ∧ (∀ e ∈ E2, e ∈ E) ∧ HpM w4 T G c (E2.take m) ∧ Ef2 T G w1 w4 from ⟨by
    unfold popS
    rw [hp3, HL1.out, swpE_pl, List.length_map, HM.out]
    rfl, by rw [hl3, HL1.out], fun e he => HS1.out.2 e (hs3 e he), hm4, ((HE2.out.trans he3).toR T).trans (he4.toL G)⟩)
  clear hm3 hp3 hl3 hs3 he3 hm4 he4 HD
  go_wp2_with fail
  go_ret
  exact ⟨E2, rfl, HX.out⟩
end Go.Proofs.YtnnakmgngkpghaaGreat

/- A heap of trees: Push. -/
namespace Go.Proofs.YtnnakmgngkpghaaGreat
open Go.RowKit
set_option linter.unusedVariables false

theorem flE_single (e : TE) : flE [e] = [.int .i64 e.w, .int .i64 e.l, e.y] := by simp [flE]
theorem take_set3 {α : Type} (cur : List α) (n : Nat) (a b c : α) (h : n + 3 ≤ cur.length) : (((cur.set n a).set (n + 1) b).set (n + 2) c).take (n + 3) = cur.take n ++ [a, b, c] := by
  apply List.ext_getElem?
  intro i
  simp only [List.getElem?_take, List.getElem?_set, List.length_set, List.getElem?_append, List.length_take]
  rw [Nat.min_eq_left (by omega)]
  by_cases h1 : i < n
  · simp [h1, show i < n + 3 by omega, show ¬ n + 2 = i by omega, show ¬ n + 1 = i by omega, show ¬ n = i by omega]
  · by_cases h2 : i = n
    · subst h2; simp [show i < cur.length by omega]
    · by_cases h3 : i = n + 1
      · subst h3; simp [show n + 1 < cur.length by omega, show n + 1 - n = 1 by omega]; omega
      · by_cases h4 : i = n + 2
        · subst h4; simp [show n + 2 < cur.length by omega, show n + 2 - n = 2 by omega]; omega
        · have : ¬ i < n + 3 := by omega
          simp [this, h1]; omega
/-- A tree is stored behind the last one, where there is room. -/
theorem RowT.push {w : World} {G c : Nat} {cur : List Value} {E : List TE} (h : RowT w G cur E) (hcl : cur.length = c * 3) (hc : E.length < c) (e : TE) :
    RowT (w.setCells G (0 + E.length * 3) [.int .i64 e.w, .int .i64 e.l, e.y]) G (((cur.set (E.length * 3) (.int .i64 e.w)).set (E.length * 3 + 1) (.int .i64 e.l)).set (E.length * 3 + 2) e.y) (E ++ [e]) := by
  rw [Nat.zero_add]
  refine ⟨((h.1.set _ _).set _ _).set _ _, ?_, by simp; omega⟩
  have h1 := h.2.1
  rw [flE_append, flE_single, ← h1, List.length_append, List.length_singleton]
  have hlen : E.length * 3 + 3 ≤ cur.length := by omega
  have e1 : (E.length + 1) * 3 = E.length * 3 + 3 := by omega
  rw [e1, take_set3 _ _ _ _ _ hlen]
theorem Ef.setCells {C : Nat} : ∀ (vs : List Value) (o : Nat) (w : World), Ef C w (w.setCells C o vs)
  | [], _, w => Ef.refl _ _
  | v :: vs, o, w => (Ef.set w o v).trans (Ef.setCells vs (o + 1) _)
theorem Tryz.info155 : (Tryz.prog.info? 155).map (fun i => (i.zero, i.size, i.bytes)) = some (some (.agg #[.int .i64 0, .int .i64 0, .slice none 0 0]), 3, 40) := by kernel_rfl
theorem Blk.allocK {q : World} {b : Nat} {l : List Value} {t : TypeId} (h : Blk q b l t) (o : Obj) : Blk (q.alloc o) b l t := by
  have := h.lt
  unfold Blk World.alloc
  simp only []
  rw [Array.getElem?_push_lt this, ← Array.getElem?_eq_getElem]
  exact h
theorem blk_new (q : World) (l : List Value) (t : TypeId) : Blk (q.alloc (.cells l.toArray t)) q.heap.size l t := heap_alloc_new q _
theorem ta_tree (q : World) (x l : Int) (yo : Option Addr) (yn yc : Nat) : Sem.run Tryz.prog (Instr.typeAssert (.iface 155 (.agg #[.int .i64 x, .int .i64 l, .slice yo yn yc])) 20 155 false) q = .ok (.agg #[.int .i64 x, .int .i64 l, .slice yo yn yc]) q := by kernel_rfl
theorem run_pushH {w : World} {G c : Nat} {cur : List Value} {E : List TE} (h : RowT w G cur E) (hcl : cur.length = c * 3) (hc : E.length < c) (x l : Int) (yo : Option Addr) (yn yc : Nat) (B : Nat) (hb : Blk w B [.int .i64 x, .int .i64 l, .slice yo yn yc] 155) (ty : TypeId) :
    (Builtin.append_ #[136, 136] ty #[.slice (some ⟨G, 0, none⟩) E.length c, .slice (some ⟨B, 0, none⟩) 1 1]).run Tryz.prog w = .ok (.slice (some ⟨G, 0, none⟩) (E.length + 1) c) (w.setCells G (0 + E.length * 3) [.int .i64 x, .int .i64 l, .slice yo yn yc]) := by
  obtain ⟨i, hi, hz0, hz1, hz2⟩ := info_parts Tryz.info155
  have hi3 : i.size = 3 := hz1
  have key := run_append_room_cells (P := Tryz.prog) w 136 ty 155 i Tryz.underlying136 hi G 0 E.length c ⟨B, 0, none⟩ 1 1 [.int .i64 x, .int .i64 l, .slice yo yn yc] (by rw [hi3]; rfl)
    (fun j u hj => by rw [Addr.add_lit, Nat.zero_add]; exact hb.cell hj) (by intro u hu; simp at hu; rcases hu with rfl | rfl | rfl <;> rfl) (by omega)
    (fun j hj => by
      rw [hi3, Nat.zero_add]
      have hj3 : j < 3 := hj
      have hlt : E.length * 3 + j < cur.length := by omega
      rw [h.1.cell (List.getElem?_eq_getElem hlt)]
      rfl)
    (fun j hj => by rw [Nat.zero_add]; exact h.1.free _)
  rw [hi3] at key
  exact key
theorem step_pushH {ops : Array Oper} {o : Oper} {a : Act} {K : Act → World → Prop} {Q : Exit → Act → World → Prop} {X : Prop} (w : World) (hgd : o.guard = none) (s x : Operand)
    (ho : o.op = .call { callee := .builtin .append, args := #[s, x], argTypes := #[136, 136] }) (G c n B : Nat) (W' : World)
    (hA : ∀ ty, (Builtin.append_ #[136, 136] ty #[.slice (some ⟨G, 0, none⟩) n c, .slice (some ⟨B, 0, none⟩) 1 1]).run Tryz.prog w = .ok (.slice (some ⟨G, 0, none⟩) (n + 1) c) W')
    (hs : a.eval s = .slice (some ⟨G, 0, none⟩) n c) (hx : a.eval x = .slice (some ⟨B, 0, none⟩) 1 1)
    (h : K (a.put o.dst (.slice (some ⟨G, 0, none⟩) (n + 1) c)) W') :
    if Region.wanted o (yielded ops a.tmps) = true then Oper.wp Tryz.prog o a w K Q else X := by
  have hw : Region.wanted o (yielded ops a.tmps) = true := by simp [Region.wanted, hgd]
  rw [if_pos hw]
  unfold Oper.wp execOp
  simp only [ho, resolve, invoke, builtin, Sem.run_bind, Sem.run_pure, Result.andThen_ok, List.map_toArray, List.map_cons, List.map_nil, hs, hx, hA]
  exact h

set_option maxRecDepth 20000 in
set_option maxHeartbeats 1600000 in
/-- treeHeap.Push where the row has room. -/
theorem pushm_any (T G c : Nat) (E : List TE) (x l : Int) (yo : Option Addr) (yn yc : Nat) (s : List Int) (w : World) (hTG : T ≠ G) (hl : E.length ≤ 1000) (hc : E.length < c) (h : HpM w T G c E) :
    Calls Tryz.prog 160 #[.pointer (some ⟨T, 0, none⟩), .iface 155 (.agg #[.int .i64 x, .int .i64 l, .slice yo yn yc])] w fun e w' => e = .returned (.tuple #[]) ∧ HpM w' T G c (E ++ [(x, l, .slice yo yn yc, s)]) ∧ Ef2 T G w w' := by
  obtain ⟨hT, cur, hcl, hr⟩ := h
  have hT0 := hT.cell (i := 0) rfl
  have hTf := hT.free 0
  have HA : ∀ ty, (Builtin.append_ #[136, 136] ty #[.slice (some ⟨G, 0, none⟩) E.length c, .slice (some ⟨w.heap.size, 0, none⟩) 1 1]).run Tryz.prog (w.drew.alloc (.cells #[.int .i64 x, .int .i64 l, .slice yo yn yc] 155)) = .ok (.slice (some ⟨G, 0, none⟩) (E.length + 1) c) ((w.drew.alloc (.cells #[.int .i64 x, .int .i64 l, .slice yo yn yc] 155)).setCells G (0 + E.length * 3) [.int .i64 x, .int .i64 l, .slice yo yn yc]) := fun ty =>
    run_pushH (E := E) ⟨Blk.allocK (q := w.drew) hr.1 _, hr.2⟩ hcl hc x l yo yn yc w.heap.size (blk_new w.drew _ _) ty
  have HTA : ∀ W', Ef G (w.drew.alloc (.cells #[.int .i64 x, .int .i64 l, .slice yo yn yc] 155)) W' → Blk W' T [.slice (some ⟨G, 0, none⟩) E.length c] 136 := fun W' he => (Blk.allocK (q := w.drew) hT _).ef he hTG
  have HTY := fun q => ta_tree q x l yo yn yc
  have HW : ∃ W', W' = (w.drew.alloc (.cells #[.int .i64 x, .int .i64 l, .slice yo yn yc] 155)).setCells G (0 + E.length * 3) [.int .i64 x, .int .i64 l, .slice yo yn yc] := ⟨_, rfl⟩
  obtain ⟨W', hW'⟩ := HW
  have hEf : Ef G (w.drew.alloc (.cells #[.int .i64 x, .int .i64 l, .slice yo yn yc] 155)) W' := by rw [hW']; exact Ef.setCells _ _ _
  have hRW : RowT W' G (((cur.set (E.length * 3) (.int .i64 x)).set (E.length * 3 + 1) (.int .i64 l)).set (E.length * 3 + 2) (.slice yo yn yc)) (E ++ [(x, l, .slice yo yn yc, s)]) := by
    rw [hW']
    exact RowT.push (E := E) ⟨Blk.allocK (q := w.drew) hr.1 _, hr.2⟩ hcl hc (x, l, .slice yo yn yc, s)
  rw [← hW'] at HA
  have hTb := HTA W' hEf
  have hTc := hTb.cell (i := 0) rfl
  have hTg := hTb.free 0
  have HF := hid (show HpM (W'.setCell ⟨T, 0, none⟩ (.slice (some ⟨G, 0, none⟩) (E.length + 1) c)) T G c (E ++ [(x, l, .slice yo yn yc, s)]) ∧ Ef2 T G w (W'.setCell ⟨T, 0, none⟩ (.slice (some ⟨G, 0, none⟩) (E.length + 1) c)) from by
    refine ⟨⟨?_, _, ?_, hRW.1.otherB (fun e => hTG e.symm) _, hRW.2⟩, ?_⟩
    · have := hTb.set 0 (.slice (some ⟨G, 0, none⟩) (E.length + 1) c)
      simpa using this
    · simpa using hcl
    · have h1 : Ef G w W' := ((Ef.refl G w).drewN 1).trans ((Ef.alloc w.drew _ _).trans hEf)
      exact (h1.toR T).trans ((Ef.set W' 0 _ : Ef T W' _).toL G))
  have HA := hid HA
  have hTAc : ∀ (vs : Array Value) (u : TypeId), (w.alloc (.cells vs u)).cell? ⟨T, 0, none⟩ = some (.slice (some ⟨G, 0, none⟩) E.length c) := fun vs u => (hT.allocK _).cell (i := 0) rfl
  clear hRW hEf hW' HTA hr hcl hT hTb
  go_enter Tryz.func160, Tryz.ntmps160
  go_region_law (first | (refine step_pushH (w.drew.alloc (.cells #[.int .i64 x, .int .i64 l, .slice yo yn yc] 155)) rfl (.tmp 7) (.tmp 10) rfl G c E.length w.heap.size W' HA.out (by rfl) (by rfl) ?_))
  all_goals go_end0
  all_goals exact ⟨rfl, HF.out⟩
end Go.Proofs.YtnnakmgngkpghaaGreat

/- A heap of trees: heap.Push. -/
namespace Go.Proofs.YtnnakmgngkpghaaGreat
open Go.RowKit
set_option linter.unusedVariables false

set_option maxRecDepth 20000 in
set_option maxHeartbeats 1600000 in
/-- heap.Push where the row has room. -/
theorem push_any (T G c : Nat) (E : List TE) (x l : Int) (yo : Option Addr) (yn yc : Nat) (s : List Int) (w : World) (hTG : T ≠ G) (hl : E.length < 1000) (hc : E.length < c) (h : HpM w T G c E) (hS : ∀ e ∈ E, ∃ a n c, e.y = .slice a n c) :
    Calls Tryz.prog 123 #[.iface 157 (.pointer (some ⟨T, 0, none⟩)), .iface 155 (.agg #[.int .i64 x, .int .i64 l, .slice yo yn yc])] w fun e w' => e = .returned (.tuple #[]) ∧ ∃ E2, HpM w' T G c E2 ∧ E2.map TE.pl = pushH (E.map TE.pl) (x, l, s) ∧ E2.length = E.length + 1 ∧ (∀ e ∈ E2, e ∈ E ∨ e = (x, l, .slice yo yn yc, s)) ∧ Ef2 T G w w' := by
  obtain ⟨m, hm⟩ : ∃ m, m = E.length := ⟨_, rfl⟩
  have kb : (m : Int) ≤ 999 := by omega
  have k0 : (0 : Int) ≤ (m : Int) := by omega
  have hlm : ((m + 1 : Nat) : Int) - 1 = (m : Int) := by omega
  have HP : Hid (Calls Tryz.prog 160 #[.pointer (some ⟨T, 0, none⟩), .iface 155 (.agg #[.int .i64 x, .int .i64 l, .slice yo yn yc])] w fun e w1 => e = .returned (.tuple #[]) ∧ (method 299 157 (.pointer (some ⟨T, 0, none⟩)) "Len").run Tryz.prog w1 = .ok (120, .slice (some ⟨G, 0, none⟩) (m + 1) c) w1 ∧ Hid (∃ E1, E1 = E ++ [(x, l, Value.slice yo yn yc, s)] ∧ HpM w1 T G c E1 ∧ Ef2 T G w w1)) := by
    refine (pushm_any T G c E x l yo yn yc s w hTG (by omega) hc h).mono ?_
    rintro e w1 ⟨h1, h2, h3⟩
    have hc1 := h2.1.cell (i := 0) rfl
    have HMN := method_len ⟨T, 0, none⟩ (.slice (some ⟨G, 0, none⟩) (E ++ [(x, l, Value.slice yo yn yc, s)]).length c) w1 hc1
    rw [List.length_append, List.length_singleton, ← hm] at HMN
    exact ⟨h1, HMN, _, rfl, h2, h3⟩
  have HMP := method_push
  have HL := hid hl
  have HS := hid hS
  have HTG := hid hTG
  have HM := hid hm
  clear h hl hc hS hTG hm
  go_enter Tryz.func123, Tryz.ntmps123
  go_wp2_with (first | (go_at_call 160; refine HP.out.mono ?_; rintro e w1 ⟨rfl, HMN, HZ⟩) | (go_at_call 120; refine (len_any _ _ _ _).mono ?_; rintro e w2 ⟨rfl, rfl⟩) | fail)
  obtain ⟨E1, hE1, hm1, he1⟩ := HZ.out
  have hn1 : E1.length = m + 1 := by rw [hE1, HM.out]; simp
  have HS1 : Hid (∀ e ∈ E1, ∃ a n c, e.y = .slice a n c) := hid (fun e he => by
    rw [hE1] at he
    rcases List.mem_append.1 he with he | he
    · exact HS.out e he
    · rw [List.mem_singleton.1 he]; exact ⟨yo, yn, yc, rfl⟩)
  refine (up_any T G c E1 m _ HTG.out (by omega) (by have := HL.out; have := HM.out; omega) hm1 HS1.out).mono ?_
  rintro e w3 ⟨rfl, ⟨E2, hm3, hp3, hl3, hs3⟩, he3⟩
  have HR := hid (show ∃ E2, HpM w3 T G c E2 ∧ E2.map TE.pl = pushH (E.map TE.pl) (x, l, s) ∧ E2.length = E.length + 1 ∧ (∀ e ∈ E2, e ∈ E ∨ e = (x, l, .slice yo yn yc, s)) ∧ Ef2 T G w w3 from by
    refine ⟨E2, hm3, ?_, by rw [hl3, hn1, HM.out], fun e he => ?_, he1.trans (he3.toR T)⟩
    · rw [hp3, hn1, hE1, HM.out, List.map_append]
      unfold pushH
      rw [List.length_map]
      rfl
    · have := hs3 e he
      rw [hE1] at this
      rcases List.mem_append.1 this with h | h
      · exact .inl h
      · exact .inr (List.mem_singleton.1 h))
  clear hm3 hp3 hl3 hs3 he3 hm1 he1 hE1 hn1 HS1
  go_wp2_with fail
  go_end0
  exact ⟨rfl, HR.out⟩
end Go.Proofs.YtnnakmgngkpghaaGreat

/- slices.Grow of no slice, by the shelf, laid in plain words. -/
namespace Go.Proofs.YtnnakmgngkpghaaGreat
open Go.RowKit Go.Shelf
set_option linter.unusedVariables false

def Tryz.growI_ren : Go.Shelf.Ren := { f := fun x => match x with | 4 => 131 | n => n, t := fun x => match x with | 22 => 22 | 25 => 3 | n => n, g := fun n => n }
theorem Tryz.growI : Lays8.n4 Tryz.prog Tryz.growI_ren := {
  mixed := by kernel_rfl
  f4 := ⟨Tryz.f131.name, by kernel_rfl, Tryz.func131.trans (by kernel_rfl)⟩
  t0 := Tryz.underlying0
  a0 := Tryz.isAgg0
  z0 := Tryz.sizeOf0
  v0 := Tryz.zeroValue0
  t3 := Tryz.underlying3
  a3 := Tryz.isAgg3
  z3 := Tryz.sizeOf3
  v3 := Tryz.zeroValue3
  t4 := Tryz.underlying4
  a4 := Tryz.isAgg4
  z4 := Tryz.sizeOf4
  v4 := Tryz.zeroValue4
  t9 := Tryz.underlying9
  a9 := Tryz.isAgg9
  z9 := Tryz.sizeOf9
  v9 := Tryz.zeroValue9
  t20 := Tryz.underlying20
  a20 := Tryz.isAgg20
  z20 := Tryz.sizeOf20
  v20 := Tryz.zeroValue20
  t22 := Tryz.underlying22
  a22 := Tryz.isAgg22
  z22 := Tryz.sizeOf22
  v22 := Tryz.zeroValue22 }

theorem grow_nil (n : Nat) (w : World) (h0 : 0 < n) (hn : n ≤ 1000) :
    Calls Tryz.prog 131 #[.slice none 0 0, .int .i64 n] w fun e w' => ∃ v, e = .returned v ∧ Own w' w.heap.size 3 .i64 v [] ∧ Below w.heap.size w w' := by
  obtain ⟨i, hi, hz0, hz1, hz2⟩ := info_parts Tryz.info3
  refine (Any8.slices_Grow_grow Tryz.growI i (.int .i64 0) hi hz0 (by rw [hz1]; decide) none 0 0 n [] w (Nat.le_refl _) (by omega) (by rw [hz2]; omega) (by omega) (by rw [hz1]; rfl) (fun _ => rfl) (fun a h => by cases h)).mono ?_
  rintro e w' ⟨rfl, rfl⟩
  refine ⟨_, rfl, ?_, ?_⟩
  · have hge := grownCap_ge w (0 + n) 0 (Tryz.growI_ren.t 25)
    have hcm := grownCap_le_maxLen w (0 + n) 0 (Tryz.growI_ren.t 25) (by unfold maxLen; omega)
    refine ⟨by simp, rfl, .inr ⟨w.heap.size, _, _, rfl, Nat.le_refl _, heap_alloc_new w.drew _, Nat.zero_le _, hcm, ?_, by simp⟩⟩
    simp only [Array.size_append, size_zeroCells, List.size_toArray, List.length_nil]
    have e1 : (Value.int .i64 0).cells.size = 1 := rfl
    rw [e1]
    omega
  · exact ((Below.refl w.heap.size w).drew).alloc (Nat.le_refl _) _
end Go.Proofs.YtnnakmgngkpghaaGreat

/- slices.Concat of two slices. -/
namespace Go.Proofs.YtnnakmgngkpghaaGreat
open Go.RowKit
set_option linter.unusedVariables false

/-- 'append(out, ys...)', ys a slice that is read and has something. -/
theorem wpList_app {P : Program} {ops : Array Oper} {rest : List Oper} {o : Oper} {a : Act} {Q : Exit → Act → World → Prop} (w : World) (hgd : o.guard = none) (s x : Operand) (t : TypeId)
    (ho : o.op = .call { callee := .builtin .append, args := #[s, x], argTypes := #[t, t] })
    (base : Nat) (e : TypeId) (k : IntKind) (z : Int) (bytes : Nat) (ht : P.underlying t = some (.slice e)) (hinfo : (P.info? e).map (fun i => (i.zero, i.size, i.bytes)) = some (some (.int k z), 1, bytes))
    (v : Value) (xs : List Int) (hs : a.eval s = v) (hown : Own w base e k v xs) (yb : Nat) (y : Value) (ys : List Int) (hx : a.eval x = y) (hy : Own w yb e k y ys) (hpos : 0 < ys.length)
    (hlen : xs.length + ys.length < 1000000000000) (hbytes : bytes ≤ 8)
    (h : ∀ v' w', Own w' base e k v' (xs ++ ys) → Below base w w' → wpList P ops Q rest (a.put o.dst v') w') : wpList P ops Q (o :: rest) a w := by
  obtain ⟨i, hi, hz0, hz1, hz2⟩ := info_parts hinfo
  have hb := hown.1
  have hlt := hown.2.lt
  have hmul : (xs.length + ys.length) * bytes ≤ (xs.length + ys.length) * 8 := Nat.mul_le_mul_left _ hbytes
  rcases hy.2.2 with ⟨_, h0⟩ | ⟨g, cap, cur, rfl, _⟩
  · omega
  · refine wpList_append_own _ hgd s x t ho base e i (.int k z) 1 bytes ht hi hz0 hz1 hz2 rfl (by decide) v xs.length _ hs hown.2 ⟨g, 0, none⟩ ys.length cap (ys.map (Value.int k)) hx (by simp) ?_ ?_ (by unfold maxLen; omega) (by omega) hb ?_
    · intro j u hj
      have hjl : j < ys.length := by have := (List.getElem?_eq_some_iff.1 hj).1; simpa using this
      rw [hy.cell rfl j hjl]
      simp [hjl] at hj
      rw [← hj]
      simp [List.getD, hjl]
    · intro u hu
      simp at hu
      obtain ⟨q, _, rfl⟩ := hu
      rfl
    · intro v' w' hown' hgrow _
      refine h v' w' ⟨Nat.le_trans hb hgrow.size, by simpa using hown'⟩ ?_
      exact (Below.refl base w).grown hgrow hb (fun g hg => (hlt g hg).1)

set_option maxRecDepth 20000 in
set_option maxHeartbeats 1600000 in
theorem concat_any (B : Nat) (ga gb : Option Addr) (na nb ca cb : Nat) (A C : List Int) (w : World) (hA : na = A.length) (hC : nb = C.length) (ha : 0 < na) (hb : 0 < nb) (hn : na + nb ≤ 1000)
    (hB : Blk w B [.slice ga na ca, .slice gb nb cb] 22) (hoA : Own w 0 3 .i64 (.slice ga na ca) A) (hoC : Own w 0 3 .i64 (.slice gb nb cb) C) :
    Calls Tryz.prog 122 #[.slice (some ⟨B, 0, none⟩) 2 2] w fun e w' => ∃ v, e = .returned v ∧ Own w' w.heap.size 3 .i64 v (A ++ C) ∧ Below w.heap.size w w' := by
  have c0 := hB.cell (i := 0) rfl
  have c1 := hB.cell (i := 1) rfl
  have HB := hid hB
  have HA := hid hoA
  have HC := hid hoC
  have kA : (na : Int) ≤ 1000 := by omega
  have kC : (nb : Int) ≤ 1000 := by omega
  have HN := hid (show 0 < na ∧ 0 < nb ∧ na + nb ≤ 1000 from ⟨ha, hb, hn⟩)
  clear hB hoA hoC
  have HL := hid (show na = A.length ∧ nb = C.length from ⟨hA, hC⟩)
  clear hA hC
  have n2 : decide ((na : Int) < 0) = false := by simp
  have n3 : decide ((na : Int) + (nb : Int) < 0) = false := by simp; omega
  go_enter Tryz.func122, Tryz.ntmps122
  go_wp2_with fail
  go_loop [3, 11] (fun sz i => Hid ((i = .int .i64 0 ∧ sz = .int .i64 0) ∨ (i = .int .i64 1 ∧ sz = .int .i64 (na : Int)) ∨ (i = .int .i64 2 ∧ sz = .int .i64 ((na : Int) + (nb : Int))))) (fun _ i => 2 - (intOf i).toNat)
  case atStart => exact hid (.inl ⟨rfl, rfl⟩)
  case round =>
    rcases hrel.out with ⟨rfl, rfl⟩ | ⟨rfl, rfl⟩ | ⟨rfl, rfl⟩
    · clear hrel
      go_wp2_with fail
      go_round
      case rel => exact hid (.inr (.inl ⟨rfl, rfl⟩))
      case measure => simp [intOf]
    · clear hrel
      go_wp2_with fail
      go_round
      case rel => exact hid (.inr (.inr ⟨rfl, rfl⟩))
      case measure => simp [intOf]
    · clear hrel
      have HG := hid (grow_nil (na + nb) w (by omega) (by omega))
      have e1 : ((na + nb : Nat) : Int) = (na : Int) + (nb : Int) := by omega
      rw [e1] at HG
      go_wp2_with (first | (go_at_call 131; refine HG.out.mono ?_; rintro e w2 ⟨v2, rfl, ho2, hb2⟩) | fail)
      have HQ : Hid (∀ wr, Below w.heap.size w wr → Blk wr B [.slice ga na ca, .slice gb nb cb] 22 ∧ Own wr 0 3 .i64 (.slice ga na ca) A ∧ Own wr 0 3 .i64 (.slice gb nb cb) C) := hid (fun wr h => ⟨HB.out.below h HB.out.lt, HA.out.below h, HC.out.below h⟩)
      have H2 := hid (show Own w2 w.heap.size 3 .i64 v2 [] ∧ Below w.heap.size w w2 from ⟨ho2, hb2⟩)
      clear ho2 hb2 c0 c1 HG n2 n3
      go_loopw [6, 27] (fun v i wr => Hid (((i = .int .i64 0 ∧ Own wr w.heap.size 3 .i64 v []) ∨ (i = .int .i64 1 ∧ Own wr w.heap.size 3 .i64 v A) ∨ (i = .int .i64 2 ∧ Own wr w.heap.size 3 .i64 v (A ++ C))) ∧ Below w.heap.size w wr)) (fun _ i _ => 2 - (intOf i).toNat)
      case atStart => exact hid ⟨.inl ⟨rfl, H2.out.1⟩, H2.out.2⟩
      case round =>
        obtain ⟨hc, hb⟩ := hrel.out
        obtain ⟨q0, q1, q2⟩ := HQ.out _ hb
        have c0 := q0.cell (i := 0) rfl
        have c1 := q0.cell (i := 1) rfl
        have HOA := hid q1
        have HOC := hid q2
        have HBW := hid hb
        clear q0 q1 q2 hb
        rcases hc with ⟨rfl, ho⟩ | ⟨rfl, ho⟩ | ⟨rfl, ho⟩
        · have HO := hid ho
          clear ho hrel
          go_wp2_with (first | (refine wpList_app _ rfl (.tmp 31) (.tmp 32) 22 rfl w.heap.size 3 .i64 0 8 Tryz.underlying22 Tryz.info3 _ [] (by rfl) HO.out 0 (.slice ga na ca) A (by rfl) HOA.out (by have := HN.out; have := HL.out; omega) (by have := HN.out; have := HL.out; simp; omega) (by decide) ?_; rintro v3 w3 ho3 hb3; have H3 := hid (show Own w3 w.heap.size 3 .i64 v3 A ∧ Below w.heap.size w w3 from ⟨by simpa using ho3, HBW.out.trans hb3⟩); clear ho3 hb3) | fail)
          go_roundw
          case rel => exact hid ⟨.inr (.inl ⟨rfl, H3.out.1⟩), H3.out.2⟩
          case measure => simp [intOf]
        · have HO := hid ho
          clear ho hrel
          go_wp2_with (first | (refine wpList_app _ rfl (.tmp 31) (.tmp 32) 22 rfl w.heap.size 3 .i64 0 8 Tryz.underlying22 Tryz.info3 _ A (by rfl) HO.out 0 (.slice gb nb cb) C (by rfl) HOC.out (by have := HN.out; have := HL.out; omega) (by have := HN.out; have := HL.out; omega) (by decide) ?_; rintro v3 w3 ho3 hb3; have H3 := hid (show Own w3 w.heap.size 3 .i64 v3 (A ++ C) ∧ Below w.heap.size w w3 from ⟨ho3, HBW.out.trans hb3⟩); clear ho3 hb3) | fail)
          go_roundw
          case rel => exact hid ⟨.inr (.inr ⟨rfl, H3.out.1⟩), H3.out.2⟩
          case measure => simp [intOf]
        · clear hrel
          go_wp2_with fail
          go_ret
          exact ⟨_, rfl, ho, HBW.out⟩
end Go.Proofs.YtnnakmgngkpghaaGreat

/- An array of 257 numbers, as a value and as a row of cells: laws of the operations that take a whole row at once. -/
namespace Go.Proofs.YtnnakmgngkpghaaGreat
open Go.RowKit
set_option linter.unusedVariables false

/-- Numbers as cells. -/
def ivs (L : List Int) : List Value := L.map (Value.int .i64)
theorem ivs_len (L : List Int) : (ivs L).length = L.length := by simp [ivs]
theorem ivs_get (L : List Int) (i : Nat) (h : i < L.length) : (ivs L)[i]? = some (.int .i64 (L.getD i 0)) := by simp [ivs, List.getD, h]
theorem ivs_set (L : List Int) (i : Nat) (x : Int) : (ivs L).set i (.int .i64 x) = ivs (L.set i x) := by simp [ivs]
theorem ivs_one (L : List Int) : (ivs L).toArray.all (·.oneCell') = true := by
  rw [Array.all_eq_true_iff_forall_mem]
  intro v hv
  simp [ivs] at hv
  obtain ⟨x, _, rfl⟩ := hv
  rfl

/-- 'var x T', of a type of many cells: its cells as a list that stays shut. -/
theorem wpList_newZ {P : Program} {ops : Array Oper} {rest : List Oper} {o : Oper} {a : Act} {Q : Exit → Act → World → Prop} (w : World) (hgd : o.guard = none) (t : TypeId) (ho : o.op = .alloc t)
    (Z : List Value) (hz : ∀ q, (zeroValue t).run P q = .ok (.agg Z.toArray) q)
    (h : wpList P ops Q rest (a.put o.dst (.pointer (some ⟨w.heap.size, 0, none⟩))) (w.alloc (.cells Z.toArray t))) : wpList P ops Q (o :: rest) a w :=
  wpList_plain hgd fun _ hK => by
    unfold Oper.wp execOp
    simp only [ho, Instr.alloc]
    simp [newVar, newRow, newObj, Sem.run_bind, hz, Value.cells]
    exact hK _ _ h

/-- A zero value of many cells that is built. -/
theorem wpList_build0 {P : Program} {ops : Array Oper} {rest : List Oper} {o : Oper} {a : Act} {Q : Exit → Act → World → Prop} (w : World) (hgd : o.guard = none) (t : TypeId) (ho : o.op = .build t #[])
    (Z : List Value) (hz : ∀ q, (Instr.build t #[]).run P q = .ok (.agg Z.toArray) q)
    (h : wpList P ops Q rest (a.put o.dst (.agg Z.toArray)) w) : wpList P ops Q (o :: rest) a w :=
  wpList_plain hgd fun _ hK => by
    have e : (#[] : Array (Nat × Operand)).map (fun (i, x) => (i, a.eval x)) = #[] := by simp
    unfold Oper.wp execOp
    simp only [ho]
    rw [e]
    simp only [Sem.run_bind, hz, Result.andThen_ok, Sem.run_pure]
    exact hK _ _ h

/-- A whole row is read. -/
theorem wpList_loadR {P : Program} {ops : Array Oper} {rest : List Oper} {o : Oper} {a : Act} {Q : Exit → Act → World → Prop} (w : World) (hgd : o.guard = none) (t : TypeId) (x : Operand) (ho : o.op = .load t x)
    (b : Nat) (L : List Value) (hb : Blk w b L t) (hx : a.eval x = .pointer (some ⟨b, 0, none⟩)) (n : Nat) (e : TypeId) (hu : P.underlying t = some (.array n e)) (hi : (P.info? t).map (·.size) = some L.length)
    (h : wpList P ops Q rest (a.put o.dst (.agg L.toArray)) w) : wpList P ops Q (o :: rest) a w :=
  wpList_plain hgd fun _ hK => by
    have hr := run_loadVar_row (P := P) w b t t L.toArray (0, 0) _ hb hu rfl (by simpa using hi)
    unfold Oper.wp execOp
    simp only [ho, hx, Instr.loadAt, Instr.sureAddr, Sem.run_bind, Sem.run_pure, Result.andThen_ok, hr]
    exact hK _ _ h

/-- A whole row is written. -/
theorem wpList_storeR {P : Program} {ops : Array Oper} {rest : List Oper} {o : Oper} {a : Act} {Q : Exit → Act → World → Prop} (w : World) (hgd : o.guard = none) (t : TypeId) (x y : Operand) (ho : o.op = .store t x y)
    (b : Nat) (L M : List Value) (hb : Blk w b L t) (hx : a.eval x = .pointer (some ⟨b, 0, none⟩)) (hy : a.eval y = .agg M.toArray) (hlen : L.length = M.length) (hi : (P.info? t).map (·.size) = some M.length)
    (h1 : M.toArray.all (·.oneCell') = true)
    (h : ∀ w', Blk w' b M t → Ef b w w' → wpList P ops Q rest (a.put o.dst undef) w') : wpList P ops Q (o :: rest) a w :=
  wpList_plain hgd fun _ hK => by
    have hr := run_storeVar_row (P := P) w b t t L.toArray M.toArray hb (by simpa using hi) (by simpa using hlen) h1
    unfold Oper.wp execOp
    simp only [ho, hx, hy, Instr.storeAt, Instr.sureAddr, Sem.run_bind, Sem.run_pure, Result.andThen_ok, hr]
    refine hK _ _ (h _ (setRow_heap w b L.toArray M.toArray t (0, 0) hb) ⟨rfl, rfl, rfl, by simp, fun k _ hk => setRow_other w b k _ (fun e => hk (by rw [e]))⟩)

/-- One result that lies in memory. -/
theorem results_one_cell {fn : Func} {p : Tmp} {ty : TypeId} (h : fn.results = #[.cell p ty]) (tmps : Array Value) (P : Program) (w : World) (a : Addr) (v : Value) (ht : tmps.getD p undef = .pointer (some a)) (hl : (loadVar ty a).run P w = .ok v w) :
    (results fn tmps).run P w = .ok v w := by
  have ht' : tmps[p]?.getD undef = .pointer (some a) := by simpa using ht
  simp only [results, h]
  simp [asAddr, ht', hl]

/-! Whether the walk stands at such an operation. -/
section at_op
variable {P : Program} {ops : Array Oper} {rest : List Oper} {a : Act} {w : World} {Q : Exit → Act → World → Prop}
theorem at_load (t : TypeId) {d x ty p f} (h : wpList P ops Q ({ dst := d, op := .load t x, type := ty, pos := p, after := f, guard := none } :: rest) a w) : wpList P ops Q ({ dst := d, op := .load t x, type := ty, pos := p, after := f, guard := none } :: rest) a w := h
theorem at_store (t : TypeId) {d x y ty p f} (h : wpList P ops Q ({ dst := d, op := .store t x y, type := ty, pos := p, after := f, guard := none } :: rest) a w) : wpList P ops Q ({ dst := d, op := .store t x y, type := ty, pos := p, after := f, guard := none } :: rest) a w := h
theorem at_alloc (t : TypeId) {d ty p f} (h : wpList P ops Q ({ dst := d, op := .alloc t, type := ty, pos := p, after := f, guard := none } :: rest) a w) : wpList P ops Q ({ dst := d, op := .alloc t, type := ty, pos := p, after := f, guard := none } :: rest) a w := h
theorem at_build (t : TypeId) {d x ty p f} (h : wpList P ops Q ({ dst := d, op := .build t x, type := ty, pos := p, after := f, guard := none } :: rest) a w) : wpList P ops Q ({ dst := d, op := .build t x, type := ty, pos := p, after := f, guard := none } :: rest) a w := h
end at_op

/-- 257 zeros. -/
def z257 : List Int := List.replicate 257 0
theorem z257_len : z257.length = 257 := List.length_replicate
theorem zero64 : ∀ q, (zeroValue 138).run Tryz.prog q = .ok (.agg (ivs z257).toArray) q := (zero_of_info (P := Tryz.prog) (t := 138) (n := 257) (by kernel_rfl)).1
theorem size64 : (Tryz.prog.info? 138).map (·.size) = some 257 := (zero_of_info (P := Tryz.prog) (t := 138) (v := .agg (ivs z257).toArray) (by kernel_rfl)).2
theorem size64L {L : List Int} (h : L.length = 257) : (Tryz.prog.info? 138).map (·.size) = some (ivs L).length := by rw [ivs_len, h]; exact size64
theorem build64 : ∀ q, (Instr.build 138 #[]).run Tryz.prog q = .ok (.agg (ivs z257).toArray) q := fun q => by kernel_rfl
end Go.Proofs.YtnnakmgngkpghaaGreat

/- Plain: one round of the heap is one round of the list. -/
namespace Go.Proofs.YtnnakmgngkpghaaGreat
open Go.RowKit
set_option linter.unusedVariables false

/-- The heap and the list that it stands for, the lengths so far, and what the run comes to. -/
structure HS (R : List Int) (f : Nat) (H L : List PT) (lens : List Int) : Prop where
  perm : H.Perm L
  apart : Apart L
  heap : HeapF H H.length 0
  wf : WFP L
  run : runP f L lens = R
  fuel : L.length ≤ f
  small : f ≤ 257
  some : 1 ≤ L.length
  len : lens.length = 257
  bd : ∀ j, 0 ≤ lens.getD j 0 ∧ lens.getD j 0 ≤ 1000 * (257 - f)
/-- What two Pops give. -/
def hA (H : List PT) : PT := nthT H 0
def hR (H : List PT) : List PT := (popS H).take (H.length - 1)
theorem HS.more {R : List Int} {f : Nat} {H L : List PT} {lens : List Int} (h : HS R f H L lens) (h1 : 1 < H.length) :
    hA H ∈ L ∧ hA (hR H) ∈ L ∧ (hR H).length = H.length - 1 ∧ (hR (hR H)).length = H.length - 2 ∧ ((hA H).2.2.length : Int) + (hA (hR H)).2.2.length ≤ 257 ∧ (hA H).1 + (hA (hR H)).1 ≤ 25700000 ∧
      HS R (f - 1) (pushH (hR (hR H)) (mergeP (hA H) (hA (hR H)))) ((stepP L).1 ++ [(stepP L).2]) (bumpTo lens ((hA H).2.2 ++ (hA (hR H)).2.2) ((hA H).2.2 ++ (hA (hR H)).2.2).length) := by
  obtain ⟨hp, ha, hh, hwf, hrun, hf, hs, hso, hlen0, hbd⟩ := h
  have hlen := hp.length_eq
  obtain ⟨f', rfl⟩ : ∃ f', f = f' + 1 := ⟨f - 1, by omega⟩
  have hL1 : 1 < L.length := by omega
  obtain ⟨e1, p1⟩ := first_least hp ha (by omega) hh
  obtain ⟨q1, hh1, l1⟩ := pop_all (H := H) (by omega) hh
  have hb1 := least_best (S := L) (by omega)
  have ha1 : Apart (L.eraseIdx (leastP L)) ∧ ∀ y ∈ L.eraseIdx (leastP L), y.2.1 ≠ (nthT L (leastP L)).2.1 := Apart.cons_inv (ha.perm (erase_perm hb1.1).symm)
  have hstep := hwf.step hL1
  unfold hA hR
  generalize (popS H).take (H.length - 1) = H1 at *
  have hlen1 := p1.length_eq
  obtain ⟨e2, p2⟩ := first_least p1 ha1.1 (by omega) hh1
  obtain ⟨q2, hh2, l2⟩ := pop_all (H := H1) (by omega) hh1
  have hb2 := least_best (S := L.eraseIdx (leastP L)) (by omega)
  have ha2 := Apart.cons_inv (ha1.1.perm (erase_perm hb2.1).symm)
  generalize (popS H1).take (H1.length - 1) = H2 at *
  obtain ⟨q3, hh3, l3⟩ := push_all (mergeP (nthT H 0) (nthT H1 0)) hh2
  have hnm : nthT (L.eraseIdx (leastP L)) (leastP (L.eraseIdx (leastP L))) ∈ L.eraseIdx (leastP L) := nth_mem hb2.1
  have hmem : ∀ y ∈ (L.eraseIdx (leastP L)).eraseIdx (leastP (L.eraseIdx (leastP L))), y ∈ L.eraseIdx (leastP L) := fun y hy => List.mem_of_mem_eraseIdx hy
  have hst : stepP L = ((L.eraseIdx (leastP L)).eraseIdx (leastP (L.eraseIdx (leastP L))), mergeP (nthT H 0) (nthT H1 0)) := by
    rw [e1, e2]
    rfl
  have t1 := two_sum (fun x => (x.2.2.length : Int)) L (leastP L) (leastP (L.eraseIdx (leastP L))) hb1.1 hb2.1 (fun x _ => Int.natCast_nonneg _)
  have t2 := two_sum (fun x => x.1) L (leastP L) (leastP (L.eraseIdx (leastP L))) hb1.1 hb2.1 hwf.2.1
  rw [runP, if_pos hL1] at hrun
  rw [← e1, ← e2] at t1 t2
  have w1 := hwf.1
  have w3 := hwf.2.2.1
  have hn3 : (pushH H2 (mergeP (nthT H 0) (nthT H1 0))).length = L.length - 1 := by rw [l3, l2, l1, hlen]; omega
  have hP : (pushH H2 (mergeP (nthT H 0) (nthT H1 0))).Perm ((stepP L).1 ++ [(stepP L).2]) := by
    rw [hst]
    exact q3.trans ((List.Perm.cons _ p2).trans (List.perm_append_comm (l₁ := [_])))
  have hLn : ((stepP L).1 ++ [(stepP L).2]).length = L.length - 1 := by rw [← hP.length_eq]; exact hn3
  refine ⟨by rw [e1]; exact nth_mem hb1.1, by rw [e2]; exact List.mem_of_mem_eraseIdx hnm, l1, by omega, by simpa using Int.le_trans t1 w3, Int.le_trans t2 w1, ⟨hP, ?_, hh3, hstep, ?_, by omega, by omega, by omega, by rw [bumpTo_len]; exact hlen0, fun j => ?_⟩⟩
  · rw [hst]
    rw [← e1, ← e2] at *
    refine Apart.perm (S := mergeP (nthT H 0) (nthT H1 0) :: (L.eraseIdx (leastP L)).eraseIdx (leastP (L.eraseIdx (leastP L)))) ?_ List.perm_append_comm
    unfold Apart
    rw [List.map_cons, List.nodup_cons]
    refine ⟨fun hin => ?_, ha2.1⟩
    obtain ⟨y, hy, ey⟩ := List.mem_map.1 hin
    have n1 := ha1.2 y (hmem y hy)
    have n2 := ha2.2 y hy
    unfold mergeP at ey
    simp only at ey
    split at ey <;> omega
  · rw [← hrun, hst]
    rfl
  · have h1 := bumpTo_bd lens ((nthT H 0).2.2 ++ (nthT H1 0).2.2) j ((nthT H 0).2.2 ++ (nthT H1 0).2.2).length
    have h2 := hbd j
    have h3 : ((nthT H 0).2.2.length : Int) + (nthT H1 0).2.2.length ≤ 257 := by simpa using Int.le_trans t1 w3
    rw [List.length_append] at h1 ⊢
    omega
theorem HS.end {R : List Int} {f : Nat} {H L : List PT} {lens : List Int} (h : HS R f H L lens) (h1 : ¬ 1 < H.length) : lens = R := by
  rw [← h.run]
  have := h.perm.length_eq
  cases f with
  | zero => rfl
  | succ f => rw [runP, if_neg (by omega)]
end Go.Proofs.YtnnakmgngkpghaaGreat

/- bestLengths: what stands in a round. -/
namespace Go.Proofs.YtnnakmgngkpghaaGreat
open Go.RowKit
set_option linter.unusedVariables false

/-- A row of ints stays where blocks of other types turn. -/
theorem Own.ef {w w' : World} {C : Nat} {base : Nat} {v : Value} {xs : List Int} {l : List Value} {t : TypeId} (h : Own w base 3 .i64 v xs) (hb : Blk w C l t) (ht : t ≠ 3) (he : Ef C w w') : Own w' base 3 .i64 v xs := by
  obtain ⟨h1, h2, h3⟩ := h
  refine ⟨Nat.le_trans h1 he.size, h2, ?_⟩
  rcases h3 with h0 | ⟨g, cap, cur, hv, hg, hh, r⟩
  · exact .inl h0
  · refine .inr ⟨g, cap, cur, hv, hg, (he.block g (Array.getElem?_eq_some_iff.1 hh).1 (fun e => ?_)).trans hh, r⟩
    have e' := Option.some.inj e
    subst e'
    unfold Blk at hb
    rw [hh] at hb
    have := Option.some.inj hb
    simp at this
    exact ht this.2.symm
theorem Own.ef2 {w w' : World} {B C : Nat} {base : Nat} {v : Value} {xs : List Int} {l m : List Value} {t u : TypeId} (h : Own w base 3 .i64 v xs) (hb : Blk w B l t) (ht : t ≠ 3) (hc : Blk w C m u) (hu : u ≠ 3) (he : Ef2 B C w w') : Own w' base 3 .i64 v xs := by
  obtain ⟨h1, h2, h3⟩ := h
  refine ⟨Nat.le_trans h1 he.size, h2, ?_⟩
  rcases h3 with h0 | ⟨g, cap, cur, hv, hg, hh, r⟩
  · exact .inl h0
  · refine .inr ⟨g, cap, cur, hv, hg, (he.block g (Array.getElem?_eq_some_iff.1 hh).1 (fun e => ?_) (fun e => ?_)).trans hh, r⟩
    · subst e
      unfold Blk at hb
      rw [hh] at hb
      have := Option.some.inj hb
      simp at this
      exact ht this.2.symm
    · subst e
      unfold Blk at hc
      rw [hh] at hc
      have := Option.some.inj hc
      simp at this
      exact hu this.2.symm
theorem Ef.ofBelow {C B : Nat} {a w : World} (hb : Below B a w) (hB : a.heap.size ≤ B) : Ef C a w := ⟨hb.os, hb.tape, hb.output, hb.size, fun k hk _ => hb.block k (by omega)⟩
theorem Ef2.ef {T G : Nat} {a b c : World} (h : Ef G a b) (k : Ef2 T G b c) (hT : a.heap.size ≤ T) : Ef G a c :=
  ⟨k.os.trans h.os, k.tape.trans h.tape, k.output.trans h.output, Nat.le_trans h.size k.size, fun g hg hne => (k.block g (Nat.lt_of_lt_of_le hg h.size) (by omega) (fun e => hne (by rw [e]))).trans (h.block g hg hne)⟩
theorem Blk.set3 {w : World} {b : Nat} {x y z : Value} {t : TypeId} (h : Blk w b [x, y, z] t) (p q r : Value) : Blk (((w.setCell ⟨b, 0, none⟩ p).setCell ⟨b, 1, none⟩ q).setCell ⟨b, 2, none⟩ r) b [p, q, r] t := ((h.set 0 p).set 1 q).set 2 r
/-- How many trees a heap has. -/
def lenAt (w : World) (T : Nat) : Nat := match w.cell? ⟨T, 0, none⟩ with
  | some (.slice _ n _) => n
  | _ => 0
theorem HpM.lenAt {w : World} {T G c : Nat} {E : List TE} (h : HpM w T G c E) : lenAt w T = E.length := by
  unfold YtnnakmgngkpghaaGreat.lenAt
  rw [h.1.cell (i := 0) rfl]

/-- What stands in a round: the heap's variable, its row, the answer, the lengths. -/
structure Stt (w wr : World) (G c : Nat) (E : List TE) (lens : List Int) : Prop where
  hp : HpM wr w.heap.size G c E
  ln : Blk wr (w.heap.size + 1 + 1) (ivs lens) 138
  rs : Blk wr (w.heap.size + 1) (ivs z257) 138
  own : ∀ e ∈ E, Own wr 0 3 .i64 e.y e.s
  ef : Ef G w wr
  hG : G < w.heap.size
  cap : E.length ≤ c
theorem Stt.slices {w wr : World} {G c : Nat} {E : List TE} {lens : List Int} (h : Stt w wr G c E lens) : ∀ e ∈ E, ∃ a n c, e.y = .slice a n c := fun e he => by
  obtain ⟨ao, cc, hy⟩ := (h.own e he).shape
  exact ⟨_, _, _, hy⟩
theorem Stt.below {w wr w' : World} {G c : Nat} {E : List TE} {lens : List Int} (h : Stt w wr G c E lens) (hb : Below wr.heap.size wr w') : Stt w w' G c E lens := by
  obtain ⟨⟨h1, cur, h2, h3⟩, h4, h5, h6, h7, h8, h9⟩ := h
  exact ⟨⟨h1.below hb h1.lt, cur, h2, h3.1.below hb h3.1.lt, h3.2⟩, h4.below hb h4.lt, h5.below hb h5.lt, fun e he => (h6 e he).below hb, h7.trans (Ef.ofBelow hb (Nat.le_refl _)), h8, h9⟩
theorem Stt.bump {w wr : World} {G c : Nat} {E : List TE} {lens : List Int} (h : Stt w wr G c E lens) (j : Nat) (x : Int) : Stt w (wr.setCell ⟨w.heap.size + 1 + 1, j, none⟩ (.int .i64 x)) G c E (lens.set j x) := by
  obtain ⟨⟨h1, cur, h2, h3⟩, h4, h5, h6, h7, h8, h9⟩ := h
  have he : Ef (w.heap.size + 1 + 1) wr (wr.setCell ⟨w.heap.size + 1 + 1, j, none⟩ (.int .i64 x)) := Ef.set _ _ _
  refine ⟨⟨h1.ef he (by omega), cur, h2, h3.1.ef he (by omega), h3.2⟩, ?_, h5.ef he (by omega), fun e hm => (h6 e hm).ef h4 (by decide) he, ?_, h8, h9⟩
  · rw [← ivs_set]; exact h4.set _ _
  · exact ⟨he.os.trans h7.os, he.tape.trans h7.tape, he.output.trans h7.output, Nat.le_trans h7.size he.size, fun g hg hne => (he.block g (Nat.lt_of_lt_of_le hg h7.size) (fun e => by have := Option.some.inj e; omega)).trans (h7.block g hg hne)⟩
theorem Stt.two {w wr w' : World} {G c : Nat} {E E2 : List TE} {lens : List Int} (h : Stt w wr G c E lens) (he : Ef2 w.heap.size G wr w') (hp : HpM w' w.heap.size G c E2) (ho : ∀ e ∈ E2, Own w' 0 3 .i64 e.y e.s) (hc : E2.length ≤ c) : Stt w w' G c E2 lens :=
  ⟨hp, h.ln.ef2 he (by omega) (by have := h.hG; omega), h.rs.ef2 he (by omega) (by have := h.hG; omega), ho, Ef2.ef h.ef he (Nat.le_refl _), h.hG, hc⟩
theorem Stt.own2 {w wr w' : World} {G c : Nat} {E : List TE} {lens : List Int} (h : Stt w wr G c E lens) (he : Ef2 w.heap.size G wr w') {base : Nat} {v : Value} {xs : List Int} (ho : Own wr base 3 .i64 v xs) : Own w' base 3 .i64 v xs := by
  obtain ⟨h1, cur, h2, h3⟩ := h.hp
  exact ho.ef2 h1 (by decide) h3.1 (by decide) he
theorem Stt.pop {w wr : World} {G c : Nat} {E : List TE} {lens : List Int} (h : Stt w wr G c E lens) (h1 : 1 ≤ E.length) (h2 : E.length ≤ 1000) :
    Calls Tryz.prog 121 #[.iface 157 (.pointer (some ⟨w.heap.size, 0, none⟩))] wr fun e w1 => ∃ (x l : Int) (yo : Option Addr) (yn yc : Nat) (s : List Int) (E2 : List TE), e = .returned (.iface 155 (.agg #[.int .i64 x, .int .i64 l, .slice yo yn yc])) ∧
      Hid ((x, l, s) = hA (E.map TE.pl) ∧ E2.map TE.pl = hR (E.map TE.pl) ∧ Own w1 0 3 .i64 (.slice yo yn yc) s ∧ Stt w w1 G c E2 lens ∧ Ef2 w.heap.size G wr w1) := by
  obtain ⟨m, hm⟩ : ∃ m, E.length = m + 1 := ⟨E.length - 1, by omega⟩
  have hG := h.hG
  refine (pop_any w.heap.size G c E m wr (by omega) hm h2 h.cap h.hp h.slices).mono ?_
  rintro e w1 ⟨E2, rfl, hpl, hl, hmem, hp, he⟩
  have hin : nthE E2 m ∈ E := hmem _ (nthE_inE (by omega))
  have ho := h.own2 he (h.own _ hin)
  obtain ⟨yo, yc, hy⟩ := ho.shape
  refine ⟨(nthE E2 m).w, (nthE E2 m).l, yo, (nthE E2 m).s.length, yc, (nthE E2 m).s, E2.take m, by rw [hy], hid ⟨?_, ?_, by rw [← hy]; exact ho, h.two he hp (fun e hm2 => h.own2 he (h.own _ (hmem e (List.mem_of_mem_take hm2)))) (by have := h.cap; rw [List.length_take]; omega), he⟩⟩
  · have h3 := nthE_pl E2 m
    have h4 := popS_last (H := E.map TE.pl) (by rw [List.length_map]; omega)
    rw [List.length_map, hm, Nat.add_sub_cancel] at h4
    unfold hA
    rw [← h4, ← hpl, ← h3]
    rfl
  · unfold hR
    rw [List.map_take, hpl, List.length_map, hm, Nat.add_sub_cancel]
theorem Stt.push {w wr : World} {G c : Nat} {E : List TE} {lens : List Int} (h : Stt w wr G c E lens) (h1 : E.length < 1000) (h2 : E.length < c) (x l : Int) (yo : Option Addr) (yn yc : Nat) (s : List Int) (ho : Own wr 0 3 .i64 (.slice yo yn yc) s) :
    Calls Tryz.prog 123 #[.iface 157 (.pointer (some ⟨w.heap.size, 0, none⟩)), .iface 155 (.agg #[.int .i64 x, .int .i64 l, .slice yo yn yc])] wr fun e w1 => e = .returned (.tuple #[]) ∧ Hid (∃ E2, E2.map TE.pl = pushH (E.map TE.pl) (x, l, s) ∧ Stt w w1 G c E2 lens) := by
  have hG := h.hG
  refine (push_any w.heap.size G c E x l yo yn yc s wr (by omega) h1 h2 h.hp h.slices).mono ?_
  rintro e w1 ⟨rfl, E2, hp, hpl, hl, hmem, he⟩
  refine ⟨rfl, hid ⟨E2, hpl, h.two he hp (fun e hm => ?_) (by omega)⟩⟩
  rcases hmem e hm with h3 | h3
  · exact h.own2 he (h.own e h3)
  · rw [h3]; exact h.own2 he ho

end Go.Proofs.YtnnakmgngkpghaaGreat

/- bestLengths. -/
namespace Go.Proofs.YtnnakmgngkpghaaGreat
open Go.RowKit
set_option linter.unusedVariables false

set_option maxRecDepth 20000 in
set_option maxHeartbeats 1600000 in
theorem best_any (G c : Nat) (cur : List Value) (E : List TE) (L : List PT) (R : List Int) (w : World) (hcl : cur.length = c * 3) (hr : RowT w G cur E) (hc : E.length ≤ c) (hO : ∀ e ∈ E, Own w 0 3 .i64 e.y e.s)
    (hp : (E.map TE.pl).Perm L) (ha : Apart L) (hwf : WFP L) (h1 : 1 ≤ L.length) (h2 : L.length ≤ 257) (hR : runP 257 L z257 = R) :
    Calls Tryz.prog 104 #[.slice (some ⟨G, 0, none⟩) E.length c] w fun e w' => e = .returned (.agg (ivs R).toArray) ∧ R.length = 257 ∧ Ef G w w' := by
  have hG := hr.1.lt
  have hlen : E.length = L.length := by rw [← hp.length_eq, List.length_map]
  have HP := hid (show (E.map TE.pl).Perm L ∧ Apart L ∧ WFP L ∧ runP 257 L z257 = R ∧ 1 ≤ E.length ∧ E.length ≤ 257 ∧ E.length ≤ c ∧ cur.length = c * 3 from ⟨hp, ha, hwf, hR, by omega, by omega, hc, hcl⟩)
  have HR0 := hid hr
  have HO := hid hO
  have HG := hid hG
  clear hr hO hp ha hwf hR hlen h1 h2 hG hcl hc
  obtain ⟨V0, hV0⟩ : ∃ V0, V0 = ((w.alloc (.cells #[.slice (some ⟨G, 0, none⟩) E.length c] 136)).alloc (.cells (ivs z257).toArray 138)).alloc (.cells (ivs z257).toArray 138) := ⟨_, rfl⟩
  have hS0 : V0.heap.size = w.heap.size + 1 + 1 + 1 := by rw [hV0]; simp
  have hB0 : Blk V0 (w.heap.size + 1 + 1) (ivs z257) 138 := by
    have h := blk_new ((w.alloc (.cells #[.slice (some ⟨G, 0, none⟩) E.length c] 136)).alloc (.cells (ivs z257).toArray 138)) (ivs z257) 138
    rw [World.size_alloc, World.size_alloc] at h
    rw [hV0]; exact h
  have hB1 : Blk V0 (w.heap.size + 1) (ivs z257) 138 := by
    have h := blk_new (w.alloc (.cells #[.slice (some ⟨G, 0, none⟩) E.length c] 136)) (ivs z257) 138
    rw [World.size_alloc] at h
    rw [hV0]; exact h.allocK _
  have hB2 : Blk V0 w.heap.size [.slice (some ⟨G, 0, none⟩) E.length c] 136 := by
    rw [hV0]; exact ((blk_new w [.slice (some ⟨G, 0, none⟩) E.length c] 136).allocK _).allocK _
  have hE0 : Below w.heap.size w V0 := by
    rw [hV0]; exact (((Below.refl _ w).alloc (Nat.le_refl _) _).alloc (by simp) _).alloc (by simp; omega) _
  have HV := hid (show V0.heap.size = w.heap.size + 1 + 1 + 1 ∧ Blk V0 (w.heap.size + 1 + 1) (ivs z257) 138 ∧ Blk V0 (w.heap.size + 1) (ivs z257) 138 ∧ Blk V0 w.heap.size [.slice (some ⟨G, 0, none⟩) E.length c] 136 ∧ Below w.heap.size w V0 from ⟨hS0, hB0, hB1, hB2, hE0⟩)
  clear hS0 hB0 hB1 hB2 hE0
  have HVE := hid hV0
  have HB := hid (show Blk (((w.alloc (.cells #[.slice (some ⟨G, 0, none⟩) E.length c] 136)).alloc (.cells (ivs z257).toArray 138)).alloc (.cells (ivs z257).toArray 138)) (w.heap.size + 1 + 1) (ivs z257) 138 from by rw [← HVE.out]; exact HV.out.2.1)
  clear hV0
  go_enter Tryz.func104, Tryz.ntmps104
  go_wp2_with (first | (with_reducible refine at_alloc 138 ?_; refine wpList_newZ _ rfl 138 rfl (ivs z257) zero64 ?_) | (with_reducible refine at_build 138 ?_; refine wpList_build0 _ rfl 138 rfl (ivs z257) build64 ?_) | (with_reducible refine at_store 138 ?_; refine wpList_storeR _ rfl 138 _ _ rfl (w.heap.size + 1 + 1) (ivs z257) (ivs z257) HB.out (by go_simp) rfl rfl (size64L z257_len) (ivs_one _) ?_) | fail)
  intro w1 hb1 he1
  have H1 : Hid (Stt w w1 G c E z257) := by
    rw [← HVE.out] at he1
    obtain ⟨v0, v1, v2, v3, v4⟩ := HV.out
    have hG := HG.out
    have hEw : Ef G w w1 := ⟨he1.os.trans v4.os, he1.tape.trans v4.tape, he1.output.trans v4.output, Nat.le_trans v4.size he1.size, fun g hg hne => (he1.block g (by omega) (fun e => by have := Option.some.inj e; omega)).trans (v4.block g hg)⟩
    exact hid ⟨⟨v3.ef he1 (by omega), cur, HP.out.2.2.2.2.2.2.2, (HR0.out.1.below v4 hG).ef he1 (by omega), HR0.out.2⟩, hb1, v2.ef he1 (by omega), fun e he => ((HO.out e he).below v4).ef v1 (by decide) he1, hEw, hG, HP.out.2.2.2.2.2.2.1⟩
  clear hb1 he1 HB HVE HV HR0 HO
  have HI := hid (init_any w.heap.size G c E w1 (by have := HG.out; omega) (by have := HP.out; omega) H1.out.hp H1.out.slices)
  go_wp2_with (first | (go_at_call 119; refine HI.out.mono ?_; rintro e w2 ⟨rfl, ⟨E1, hm1, hp1, hl1, hs1⟩, he1⟩) | fail)
  have H2 : Hid (∃ f E' L' lens, HS R f (E'.map TE.pl) L' lens ∧ Stt w w2 G c E' lens) := by
    obtain ⟨p1, p2, p3, p4, p5, p6, p7, p8⟩ := HP.out
    have hlen := p1.length_eq
    rw [List.length_map] at hlen
    have hin := initH_heap (E.length / 2) (E.map TE.pl) (by rw [List.length_map]; exact Nat.le_refl _) (by have := leaf_heap (E.map TE.pl); rwa [List.length_map] at this ⊢)
    have hz : ∀ j, z257.getD j 0 = 0 := fun j => by
      simp only [z257, List.getD, List.getElem?_replicate]
      split <;> rfl
    refine hid ⟨257, E1, L, z257, ⟨by rw [hp1]; exact hin.1.trans p1, p2, by rw [hp1]; have := hin.2; rw [initH_len]; exact this, p3, p4, by omega, Nat.le_refl _, by omega, z257_len, fun j => by rw [hz j]; omega⟩, H1.out.two (he1.toR w.heap.size) hm1 (fun e he => H1.out.own2 (he1.toR w.heap.size) (H1.out.own e (hs1 e he))) (by omega)⟩
  clear hm1 hp1 hl1 hs1 he1 H1 HI
  go_loopw [] (fun wr => Hid (∃ f E' L' lens, HS R f (E'.map TE.pl) L' lens ∧ Stt w wr G c E' lens)) (fun wr => lenAt wr w.heap.size)
  case atStart => exact H2
  case round =>
    obtain ⟨f, E', L', lens, hS0, hT0⟩ := hrel.out
    have HS0 := hid hS0
    have HT0 := hid hT0
    have HL0 := hid hT0.hp.lenAt
    have hn := hS0.perm.length_eq
    rw [List.length_map] at hn
    have hn1 : 1 ≤ E'.length ∧ E'.length ≤ 257 := by have := hS0.some; have := hS0.fuel; have := hS0.small; omega
    have c0 := hT0.hp.1.cell (i := 0) rfl
    clear hS0 hT0 hrel H2
    obtain ⟨n, hnE⟩ : ∃ n, n = E'.length := ⟨_, rfl⟩
    rw [← hnE] at c0 hn1
    have HN := hid hnE
    have HN1 := hid hn1
    clear hnE hn hn1
    by_cases h1 : 1 < n
    · have h1' : decide ((1 : Int) < (n : Int)) = true := by simp; omega
      have HP1 := hid (HT0.out.pop (by have := HN.out; omega) (by have := HN.out; have := HN1.out; omega))
      have HTY := ta_tree
      have H1 := hid h1
      clear h1
      go_wp2_with (first | (go_at_call 120; refine (len_any _ _ _ _).mono ?_; rintro e w2 ⟨rfl, rfl⟩) | (go_at_call 121; refine HP1.out.mono ?_; rintro e w3 ⟨x1, l1, y1, n1, d1, s1, E2, rfl, HX1⟩) | fail)
      have HG2 := hid (show Stt w (w3.alloc (.cells #[.int .i64 x1, .int .i64 l1, .slice y1 n1 d1] 155)) G c E2 lens ∧ Own (w3.alloc (.cells #[.int .i64 x1, .int .i64 l1, .slice y1 n1 d1] 155)) 0 3 .i64 (.slice y1 n1 d1) s1 ∧ Blk (w3.alloc (.cells #[.int .i64 x1, .int .i64 l1, .slice y1 n1 d1] 155)) w3.heap.size [.int .i64 x1, .int .i64 l1, .slice y1 n1 d1] 155 ∧ w.heap.size < w3.heap.size from by
        obtain ⟨q1, q2, q3, q4, q5⟩ := HX1.out
        have hb := (Below.refl w3.heap.size w3).alloc (Nat.le_refl _) (.cells #[.int .i64 x1, .int .i64 l1, .slice y1 n1 d1] 155)
        exact ⟨q4.below hb, q3.below hb, blk_new _ _ _, q4.hp.1.lt⟩)
      have HE2 : Hid (E2.length = n - 1) := hid (by
        have := congrArg List.length HX1.out.2.1
        rw [List.length_map] at this
        rw [this, (HS0.out.more (by rw [List.length_map, ← HN.out]; exact H1.out)).2.2.1, List.length_map, ← HN.out])
      refine (HG2.out.1.pop (by have := HE2.out; have := H1.out; omega) (by have := HE2.out; have := HN1.out; omega)).mono ?_
      rintro e w4 ⟨x2, l2, y2, n2, d2, s2, E3, rfl, HX2⟩
      have hA0 : Blk w4 w3.heap.size [.int .i64 x1, .int .i64 l1, .slice y1 n1 d1] 155 := HG2.out.2.2.1.ef2 HX2.out.2.2.2.2 (by have := HG2.out.2.2.2; omega) (by have := HG2.out.2.2.2; have := HG.out; omega)
      have HA0 := hid hA0
      have hA2 : (w4.alloc (.cells #[.int .i64 x2, .int .i64 l2, .slice y2 n2 d2] 155)).cell? ⟨w3.heap.size, 2, none⟩ = some (.slice y1 n1 d1) := (hA0.allocK _).cell (i := 2) rfl
      have HOW : Hid (Own w4 0 3 .i64 (.slice y1 n1 d1) s1) := hid (HG2.out.1.own2 HX2.out.2.2.2.2 HG2.out.2.1)
      clear hA0
      have HF := hid (show s1 ≠ [] ∧ s2 ≠ [] ∧ (∀ x ∈ s1 ++ s2, 0 ≤ x ∧ x ≤ 256) ∧ (s1.length : Int) + s2.length ≤ 257 ∧ (0 ≤ x1 ∧ 0 ≤ x2 ∧ x1 + x2 ≤ 25700000) ∧ E3.length = n - 2 ∧ HS R (f - 1) (pushH (E3.map TE.pl) (mergeP (x1, l1, s1) (x2, l2, s2))) ((stepP L').1 ++ [(stepP L').2]) (bumpTo lens (s1 ++ s2) (s1 ++ s2).length) from by
        obtain ⟨a1, a2, a3, a4, a5, a6, a7⟩ := HS0.out.more (by rw [List.length_map, ← HN.out]; exact H1.out)
        obtain ⟨b1, b2, _⟩ := HX1.out
        obtain ⟨c1, c2, _⟩ := HX2.out
        rw [b2] at c1 c2
        rw [← b1] at a1 a5 a6 a7
        rw [← c1] at a2 a5 a6 a7
        rw [← c2] at a4 a7
        have w1 := HS0.out.wf.2.2.2 _ a1
        have w2 := HS0.out.wf.2.2.2 _ a2
        refine ⟨w1.1, w2.1, fun x hx => ?_, a5, ⟨HS0.out.wf.2.1 _ a1, HS0.out.wf.2.1 _ a2, a6⟩, ?_, a7⟩
        · rcases List.mem_append.1 hx with h | h
          · exact w1.2 x h
          · exact w2.2 x h
        · rw [List.length_map, List.length_map, ← HN.out] at a4
          exact a4)
      have HB4 := hid ((Below.refl w4.heap.size w4).alloc (Nat.le_refl _) (.cells #[.int .i64 x2, .int .i64 l2, .slice y2 n2 d2] 155))
      have HB5 := hid (HB4.out.alloc (by simp) (.cells #[.slice y1 n1 d1, .slice y2 n2 d2] 22))
      obtain ⟨SS, hSS⟩ : ∃ SS, SS = s1 ++ s2 := ⟨_, rfl⟩
      obtain ⟨NN, hNN⟩ : ∃ NN, NN = SS.length := ⟨_, rfl⟩
      have HSS := hid (show SS = s1 ++ s2 ∧ NN = SS.length ∧ 1 ≤ NN ∧ NN ≤ 257 from ⟨hSS, hNN, by
        have := List.length_pos_iff.2 HF.out.1
        have := HF.out.2.2.2.1
        rw [hNN, hSS, List.length_append]
        omega⟩)
      have HC : Hid (Calls Tryz.prog 122 #[.slice (some ⟨w4.heap.size + 1, 0, none⟩) 2 2] ((w4.alloc (.cells #[.int .i64 x2, .int .i64 l2, .slice y2 n2 d2] 155)).alloc (.cells #[.slice y1 n1 d1, .slice y2 n2 d2] 22)) fun e w' => ∃ g5 d5, e = .returned (.slice (some ⟨g5, 0, none⟩) NN d5) ∧ Hid (Own w' 0 3 .i64 (.slice (some ⟨g5, 0, none⟩) NN d5) SS ∧ Below w4.heap.size w4 w' ∧ Blk w' w4.heap.size [.int .i64 x2, .int .i64 l2, .slice y2 n2 d2] 155)) := hid (by
        refine (concat_any (w4.heap.size + 1) y1 y2 n1 n2 d1 d2 s1 s2 ((w4.alloc (.cells #[.int .i64 x2, .int .i64 l2, .slice y2 n2 d2] 155)).alloc (.cells #[.slice y1 n1 d1, .slice y2 n2 d2] 22)) HOW.out.len HX2.out.2.2.1.len (by rw [HOW.out.len]; exact List.length_pos_iff.2 HF.out.1) (by rw [HX2.out.2.2.1.len]; exact List.length_pos_iff.2 HF.out.2.1) (by have h1 := HOW.out.len; have h2 := HX2.out.2.2.1.len; have := HF.out.2.2.2.1; omega) (by have h := blk_new (w4.alloc (.cells #[.int .i64 x2, .int .i64 l2, .slice y2 n2 d2] 155)) [.slice y1 n1 d1, .slice y2 n2 d2] 22; rw [World.size_alloc] at h; exact h) (HOW.out.below HB5.out) (HX2.out.2.2.1.below HB5.out)).mono ?_
        rintro e w5 ⟨v5, rfl, ho5, hb5⟩
        rw [← hSS] at ho5
        obtain ⟨g5, d5, rfl⟩ := ho5.shape
        obtain ⟨g, rfl⟩ := ho5.some_of (fun e => by have := HSS.out.2.2.1; rw [hNN, e] at this; simp at this)
        rw [← hNN] at ho5 ⊢
        exact ⟨g, d5, rfl, hid ⟨ho5.low (Nat.zero_le _), Below.trans HB5.out ⟨hb5.os, hb5.tape, hb5.output, hb5.size, fun k hk => hb5.block k (by simp; omega)⟩, ((blk_new w4 [.int .i64 x2, .int .i64 l2, .slice y2 n2 d2] 155).allocK _).below hb5 (by simp; omega)⟩⟩)
      have n1b : (NN : Int) ≤ 257 := by have := HSS.out.2.2.2; omega
      clear hSS hNN
      go_wp2_with (first | (go_at_call 122; refine HC.out.mono ?_; rintro e w5 ⟨g5, d5, rfl, HX5⟩) | fail)
      have HS5 := hid (HX2.out.2.2.2.1.below HX5.out.2.1)
      clear HC HTY hA2
      go_loopw [29] (fun i wr2 => ∃ k : Nat, k ≤ NN ∧ i = .int .i64 k ∧ Hid (Stt w wr2 G c E3 (bumpTo lens SS k)) ∧ Hid (Ef (w.heap.size + 1 + 1) w5 wr2)) (fun i _ => NN - (intOf i).toNat)
      case atStart => exact ⟨0, Nat.zero_le _, rfl, HS5, hid (Ef.refl _ _)⟩
      case round =>
        obtain ⟨k, hk, rfl, hT2, hE2⟩ := hrel
        have HOS := hid (HX5.out.1.ef HS5.out.ln (by decide) hE2.out)
        by_cases hlt : k < NN
        · have hlt' : (k : Int) < (NN : Int) := by omega
          have hcs := HOS.out.at k (by have := HSS.out.2.1; omega)
          have HX := hid (HF.out.2.2.1 (SS.getD k 0) (by rw [← HSS.out.1]; simp [List.getD, show k < SS.length by have := HSS.out.2.1; omega]))
          have HN2 := hid (show bumpTo lens SS (k + 1) = (bumpTo lens SS k).set (SS.getD k 0).toNat ((bumpTo lens SS k).getD (SS.getD k 0).toNat 0 + 1) from rfl)
          have hx0 := HX.out.1
          have hx1 : SS.getD k 0 < 257 := by have := HX.out.2; omega
          have hcl := hT2.out.ln.cell (ivs_get (bumpTo lens SS k) (SS.getD k 0).toNat (by rw [bumpTo_len, HS0.out.len]; omega))
          have hfr := hT2.out.ln.free (SS.getD k 0).toNat
          have hyb : 0 ≤ (bumpTo lens SS k).getD (SS.getD k 0).toNat 0 ∧ (bumpTo lens SS k).getD (SS.getD k 0).toNat 0 ≤ 300000 := by
            have h1 := bumpTo_bd lens SS (SS.getD k 0).toNat k
            have h2 := HS0.out.bd (SS.getD k 0).toNat
            have h3 := HS0.out.small
            have h4 := HSS.out.2.2.2
            omega
          clear HX
          generalize SS.getD k 0 = X at *
          generalize (bumpTo lens SS k).getD X.toNat 0 = Y at *
          obtain ⟨hy0, hy1⟩ := hyb
          have HT3 := hid (hT2.out.bump X.toNat (Y + 1))
          rw [← HN2.out] at HT3
          have HE3 := hid (hE2.out.trans (Ef.set wr X.toNat (.int .i64 (Y + 1))))
          clear HN2 hT2 hE2 HOS
          go_wp2_with fail
          go_roundw
          case rel => exact ⟨k + 1, by omega, by go_num, HT3, HE3⟩
          case measure => simp [intOf]; omega
        · obtain rfl : k = NN := by omega
          have hE3 : E3.length < 1000 ∧ E3.length < c := by
            have h1 := HF.out.2.2.2.2.2.1
            have h2 := HN1.out
            have h3 := HT0.out.cap
            have h4 := HN.out
            have h5 := H1.out
            omega
          have hAw := (HA0.out.below HX5.out.2.1 HA0.out.lt).ef hE2.out (by have := HX1.out.2.2.2.1.ln.lt; omega)
          have hBw : Blk wr w4.heap.size [.int .i64 x2, .int .i64 l2, .slice y2 n2 d2] 155 := HX5.out.2.2.ef hE2.out (by have := HX2.out.2.2.2.1.ln.lt; omega)
          have a0 := hAw.cell (i := 0) rfl
          have a1 := hAw.cell (i := 1) rfl
          have b0 := hBw.cell (i := 0) rfl
          have b1 := hBw.cell (i := 1) rfl
          obtain ⟨p1, p2, p3⟩ := HF.out.2.2.2.2.1
          have HEND : Hid (∀ (LL : Int) w6, LL = (if l2 < l1 then l2 else l1) → (∃ E2, E2.map TE.pl = pushH (E3.map TE.pl) (x1 + x2, LL, SS) ∧ Stt w w6 G c E2 (bumpTo lens SS k)) → (∃ f E' L' lens, HS R f (E'.map TE.pl) L' lens ∧ Stt w w6 G c E' lens) ∧ lenAt w6 w.heap.size < n) := hid (by
            rintro LL w6 hLL ⟨E4, hpl, hT⟩
            have hm : mergeP (x1, l1, s1) (x2, l2, s2) = (x1 + x2, LL, SS) := by rw [hLL, HSS.out.1]; rfl
            obtain ⟨f1, f2, f3, f4, f5, f6, f7⟩ := HF.out
            rw [hm, ← hpl, ← HSS.out.1, ← HSS.out.2.1] at f7
            refine ⟨⟨_, E4, _, _, f7, hT⟩, ?_⟩
            rw [hT.hp.lenAt]
            have h1 := congrArg List.length hpl
            have h2 : (pushH (E3.map TE.pl) (x1 + x2, LL, SS)).length = (E3.map TE.pl).length + 1 := by
              unfold pushH
              rw [up_len, List.length_append]
              rfl
            rw [h2, List.length_map, List.length_map] at h1
            have := H1.out
            omega)
          clear hAw hBw hk hlt
          have HP3 := hid (hT2.out.push hE3.1 hE3.2 (x1 + x2) (min l1 l2) (some ⟨g5, 0, none⟩) k d5 SS HOS.out)
          have HE4 := hid (fun w6 h => HEND.out (min l1 l2) w6 (by split <;> omega) h)
          clear hE3
          go_wp2_with (first | (go_at_call 123; refine HP3.out.mono ?_; rintro e w6 ⟨rfl, HX6⟩) | fail)
          go_roundw
          case rel => exact (HE4.out _ HX6.out).1
          case measure => have h1 := (HE4.out _ HX6.out).2; have h2 := HL0.out; have h3 := HN.out; omega
    · have h1' : decide ((1 : Int) < (n : Int)) = false := by simp; omega
      have HRR := hid (HS0.out.end (by rw [List.length_map, ← HN.out]; exact h1))
      have HLn := hid HS0.out.len
      have HT := hid (show Stt w wr G c E' R from by rw [← HRR.out]; exact HT0.out)
      have hRl : R.length = 257 := by rw [← HRR.out]; exact HLn.out
      have HRl := hid hRl
      clear hRl h1 HS0 HT0
      go_wp2_with (first | (go_at_call 120; refine (len_any _ _ _ _).mono ?_; rintro e w2 ⟨rfl, rfl⟩) | (with_reducible refine at_load 138 ?_; refine wpList_loadR _ rfl 138 _ rfl (w.heap.size + 1 + 1) (ivs R) HT.out.ln (by go_simp) 257 3 Tryz.underlying138 (size64L HRl.out) ?_) | (with_reducible refine at_store 138 ?_; refine wpList_storeR _ rfl 138 _ _ rfl (w.heap.size + 1) (ivs z257) (ivs R) HT.out.rs (by go_simp) rfl (by rw [ivs_len, ivs_len, z257_len, HRl.out]) (size64L HRl.out) (ivs_one _) ?_) | fail)
      intro w3 hb3 he3
      go_wp2_with fail
      refine bodyPost_ret (v := .agg (ivs R).toArray) ?_ rfl ⟨rfl, HRl.out, ?_⟩
      · have hld := run_loadVar_row (P := Tryz.prog) w3 (w.heap.size + 1) 138 138 (ivs R).toArray (0, 0) _ hb3 Tryz.underlying138 rfl (by simpa using size64L HRl.out)
        exact results_one_cell rfl _ _ _ _ _ rfl hld
      · have h7 := HT.out.ef
        have hG := HG.out
        exact ⟨he3.os.trans h7.os, he3.tape.trans h7.tape, he3.output.trans h7.output, Nat.le_trans h7.size he3.size, fun g hg hne => (he3.block g (Nat.lt_of_lt_of_le hg h7.size) (fun e => by have := Option.some.inj e; omega)).trans (h7.block g hg hne)⟩
end Go.Proofs.YtnnakmgngkpghaaGreat
