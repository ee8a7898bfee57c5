/- A heap of trees: Pop. -/
import Derived.Test.YtmdmolofiblbmaaHv
namespace Go.Proofs.Ytmdmolofiblbmaa
open Go.RowKit
set_option linter.unusedVariables false

theorem Ef.alloc {C : Nat} (w : World) (vs : Array Value) (u : TypeId) : Ef C w (w.alloc (.cells vs u)) :=
  ⟨rfl, rfl, rfl, by unfold World.alloc; simp only [Array.size_push]; omega, fun k hk _ => by
    unfold World.alloc
    simp only []
    rw [Array.getElem?_push_lt hk, ← Array.getElem?_eq_getElem]⟩
theorem flE_takeL : ∀ (E : List TE) (m : Nat), flE (E.take m) = (flE E).take (m * 3)
  | [], m => by simp [flE]
  | x :: E, 0 => by simp [flE]
  | x :: E, m + 1 => by
    have ih := flE_takeL E m
    have hc : ∀ (y : TE) (R : List TE), flE (y :: R) = .int .i64 y.w :: .int .i64 y.l :: y.y :: flE R := fun y R => by simp [flE]
    have e1 : (m + 1) * 3 = m * 3 + 1 + 1 + 1 := by omega
    rw [List.take_succ_cons, hc, hc, ih, e1, List.take_succ_cons, List.take_succ_cons, List.take_succ_cons]
theorem RowT.take {w : World} {G : Nat} {cur : List Value} {E : List TE} (h : RowT w G cur E) (m : Nat) (hm : m ≤ E.length) : RowT w G cur (E.take m) := by
  refine ⟨h.1, ?_, ?_⟩
  · rw [flE_takeL, ← h.2.1, List.take_take, List.length_take]
    congr 1
    omega
  · have := h.2.2
    rw [List.length_take]
    omega

set_option maxRecDepth 20000 in
set_option maxHeartbeats 1600000 in
/-- treeHeap.Pop. -/
theorem popm_any (T G c : Nat) (E : List TE) (m : Nat) (w : World) (hTG : T ≠ G) (hm : E.length = m + 1) (hl : E.length ≤ 1000) (hc : E.length ≤ c) (h : HpM w T G c E) (hS : ∀ e ∈ E, ∃ a n c, e.y = .slice a n c) :
    Calls Try.prog 93 #[.pointer (some ⟨T, 0, none⟩)] w fun e w' => e = .returned (.iface 86 (.agg #[.int .i64 (nthE E m).w, .int .i64 (nthE E m).l, (nthE E m).y])) ∧ HpM w' T G c (E.take m) ∧ Ef T w w' := by
  obtain ⟨hT, cur, hcl, hr⟩ := h
  obtain ⟨a0, a1, a2⟩ := hr.at m (by omega)
  have c0 := hr.1.cell a0
  have c1 := hr.1.cell a1
  have c2 := hr.1.cell a2
  have hT0 := hT.cell (i := 0) rfl
  have hTf := hT.free 0
  have hTA : ∀ (vs : Array Value) (u : TypeId), Blk (w.alloc (.cells vs u)) T [.slice (some ⟨G, 0, none⟩) E.length c] 62 := fun vs u => by
    have := hT.lt
    unfold Blk World.alloc
    simp only []
    rw [Array.getElem?_push_lt this, ← Array.getElem?_eq_getElem]
    exact hT
  have hTc : ∀ (vs : Array Value) (u : TypeId), (w.alloc (.cells vs u)).cell? ⟨T, 0, none⟩ = some (.slice (some ⟨G, 0, none⟩) (m + 1) c) := fun vs u => by
    rw [← hm]; exact (hTA vs u).cell (i := 0) rfl
  have hTg : ∀ (vs : Array Value) (u : TypeId), (w.alloc (.cells vs u)).frozen? ⟨T, 0, none⟩ = false := fun vs u => (hTA vs u).free 0
  have hmc : (m : Int) ≤ (c : Int) := by omega
  have hTn : ¬ w.heap.size = T := fun e => by have := hT.lt; omega
  have hTn2 : ¬ T = w.heap.size := fun e => hTn e.symm
  have hN : ∀ (vs : List Value) (u : TypeId) (v x : Value) (i : Nat), vs[i]? = some x → ((w.alloc (.cells vs.toArray u)).setCell ⟨T, 0, none⟩ v).cell? ⟨w.heap.size, i, none⟩ = some x := fun vs u v x i hx => by
    have hb : Blk (w.alloc (.cells vs.toArray u)) w.heap.size vs u := by unfold Blk World.alloc; simp
    exact (hb.otherB hTn v).cell hx
  have hN0 : ∀ (p q r v : Value) (u : TypeId), ((w.alloc (.cells #[p, q, r] u)).setCell ⟨T, 0, none⟩ v).cell? ⟨w.heap.size, 0, none⟩ = some p := fun p q r v u => hN [p, q, r] u v p 0 rfl
  have hN1 : ∀ (p q r v : Value) (u : TypeId), ((w.alloc (.cells #[p, q, r] u)).setCell ⟨T, 0, none⟩ v).cell? ⟨w.heap.size, 1, none⟩ = some q := fun p q r v u => hN [p, q, r] u v q 1 rfl
  have hN2 : ∀ (p q r v : Value) (u : TypeId), ((w.alloc (.cells #[p, q, r] u)).setCell ⟨T, 0, none⟩ v).cell? ⟨w.heap.size, 2, none⟩ = some r := fun p q r v u => hN [p, q, r] u v r 2 rfl
  clear hN
  have kb : (m : Int) ≤ 999 := by omega
  have k0 : (0 : Int) ≤ (m : Int) := by omega
  have hlm : ((m + 1 : Nat) : Int) - 1 = (m : Int) := by omega
  rw [hm] at hT0
  obtain ⟨oy, ny, cy, ey⟩ := hS _ (nthE_inE (k := m) (by omega))
  rw [ey] at c2
  rw [ey]
  generalize (nthE E m).w = wm at *
  generalize (nthE E m).l = lm at *
  have HT := hid hT
  have HR := hid hr
  have HM := hid hm
  clear hT hr hm hl a0 a1 a2
  go_enter Try.func93, Try.ntmps93
  go_wp2_with fail
  go_ret
  have hE : ∀ (vs : Array Value) (u : TypeId) (v : Value), Ef T w ((w.alloc (.cells vs u)).setCell ⟨T, 0, none⟩ v) := fun vs u v => (Ef.alloc w vs u).trans (Ef.set _ _ _)
  refine ⟨rfl, ⟨?_, cur, hcl, RowT.take (E := E) ⟨HR.out.1.ef (hE _ _ _) (fun e => hTG e.symm), HR.out.2⟩ m (by have := HM.out; omega)⟩, hE _ _ _⟩
  have hlt : (E.take m).length = m := by have := HM.out; rw [List.length_take]; omega
  rw [hlt]
  exact (hTA _ _).set 0 _
end Go.Proofs.Ytmdmolofiblbmaa
