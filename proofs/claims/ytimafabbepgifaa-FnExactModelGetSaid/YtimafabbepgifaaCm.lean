/- Contracts: a model's copy, of the program and of the specification; whether a base is right. -/
import Derived.Test.YtimafabbepgifaaMc
import Derived.Test.YtimafabbepgifaaPn
import Derived.Test.YtimafabbepgifaaWf
import Derived.Lib.SliceRun
namespace Go.Proofs.Ytimafabbepgifaa
open Go.RowKit
set_option linter.unusedVariables false

theorem Vw.piece {w : World} {v : Value} {xs : List Int} (h : Vw w v xs) : ∃ ao cap, v = .slice ao xs.length cap ∧ View .i64 w ao xs.length xs := by
  obtain ⟨ao, cap, e, hv, _⟩ := h
  exact ⟨ao, cap, e, hv⟩

/-- A slice that reads as numbers; nil only where it is empty and has no room. -/
def Vp (w : World) (v : Value) (xs : List Int) : Prop := ∃ ao cap, v = .slice ao xs.length cap ∧ View .i64 w ao xs.length xs ∧ xs.length ≤ cap ∧ ((ao = none ∧ xs.length = 0 ∧ cap = 0) ∨ ∃ blk off, ao = some ⟨blk, off, none⟩)
theorem Own.vp {w : World} {base : Nat} {v : Value} {xs : List Int} (h : Own w base 3 .i64 v xs) : Vp w v xs := by
  obtain ⟨ao, cap, e, hv, hc⟩ := h.vw
  obtain ⟨ao', cap', e', _, hp⟩ := h.piece
  rw [e] at e'
  simp only [Value.slice.injEq] at e'
  obtain ⟨rfl, _, rfl⟩ := e'
  exact ⟨ao, cap, e, hv, hc, hp⟩
theorem Vp.vw {w : World} {v : Value} {xs : List Int} (h : Vp w v xs) : Vw w v xs := by
  obtain ⟨ao, cap, e, hv, hc, _⟩ := h
  exact ⟨ao, cap, e, hv, hc⟩
theorem Vp.below {w w' : World} {B : Nat} {v : Value} {xs : List Int} (h : Vp w v xs) (hB : w.heap.size ≤ B) (hb : Below B w w') : Vp w' v xs := by
  obtain ⟨ao, cap, e, hv, hc, hp⟩ := h
  exact ⟨ao, cap, e, hv.below hB hb, hc, hp⟩

set_option maxRecDepth 100000 in
set_option maxHeartbeats 1600000 in
theorem clone_any (v : Value) (xs : List Int) (w : World) (hn : xs.length ≤ 1048576) (h : Vp w v xs) :
    Calls Try.prog 61 #[v] w fun e w' => ∃ v', e = .returned v' ∧ Own w' w.heap.size 3 .i64 v' xs ∧ Below w.heap.size w w' := by
  obtain ⟨ao, cap, rfl, hv, hc, hp⟩ := h
  have q24 : ∀ (w : World) (a : Option Addr) (n c n' c' : Nat), (binOp .eql 24 (.slice a n c) (.slice none n' c')).run Try.prog w = .ok (.bool a.isNone) w := fun w a n c n' c' => Lib.run_eql_slice_nil w _ _ a n c n' c' Try.underlying24
  rcases hp with ⟨rfl, h0, rfl⟩ | ⟨blk, off, rfl⟩
  · have hxs : xs = [] := List.length_eq_zero_iff.1 h0
    subst hxs
    clear hv hc
    go_enter Try.func61, Try.ntmps61
    go_wp2_with fail
    go_ret
    exact ⟨_, rfl, Own.nil _ _ _ _ (Nat.le_refl _), Below.refl _ _⟩
  · have HV := hid hv
    have HO0 := hid (Own.empty w 3 .i64 w.heap.size (Nat.le_refl _))
    have HB0 := hid ((Below.refl w.heap.size w).alloc (Nat.le_refl _) (.cells #[] 3))
    have HV0 := hid (hv.below (Nat.le_refl _) HB0.out)
    have hlen : ([] : List Int).length + xs.length < 1000000000000 := by simp; omega
    have hyo : ((some (⟨blk, off, none⟩ : Addr)) = none ∧ xs.length = 0 ∧ cap = 0) ∨ ∃ b o, (some (⟨blk, off, none⟩ : Addr)) = some ⟨b, o, none⟩ := .inr ⟨_, _, rfl⟩
    have HYO := hid hyo
    clear hv hc hyo
    go_enter Try.func61, Try.ntmps61
    go_wp2_with (at_builtin; refine wpList_appV _ rfl _ _ 24 rfl w.heap.size 3 .i64 0 8 Try.underlying24 Try.info3 _ _ rfl HO0.out (some ⟨blk, off, none⟩) xs.length cap xs rfl HV0.out HYO.out hlen (by decide) ?_)
    intro v3 w3 hown3 hb3
    have HO3 := hid hown3
    have HB3 := hid (HB0.out.trans hb3)
    obtain ⟨ao3, cap3, rfl⟩ := hown3.shape
    clear hown3 hb3
    go_wp2_with fail
    go_ret
    refine ⟨_, rfl, ?_, HB3.out⟩
    simpa using HO3.out

set_option maxRecDepth 100000 in
set_option maxHeartbeats 1600000 in
theorem copy_model (v : Value) (xs : List Int) (w : World) (hn : xs.length ≤ 1048576) (h : Vp w v xs) :
    Calls Try.prog 35 #[.agg #[v]] w fun e w' => ∃ v', e = .returned (.agg #[v']) ∧ Own w' w.heap.size 3 .i64 v' xs ∧ Below w.heap.size w w' := by
  have HC := hid (fun q hq => clone_any v xs q hn (h.below (Nat.le_refl _) hq))
  obtain ⟨ao, cap, rfl, hv, hc, hp⟩ := h
  clear hv hc hp
  obtain ⟨n1, n2, n3⟩ := new_two w [.slice ao xs.length cap] [.slice none 0 0] 27 27
  have N2 := hid n2
  have N3 := hid n3
  clear n1 n2 n3
  generalize xs.length = n at *
  go_enter Try.func35, Try.ntmps35
  go_wp2_with fail
  refine (HC.out _ N3.out).mono ?_
  generalize (w.alloc (.cells #[.slice ao n cap] 27)).alloc (.cells #[.slice none 0 0] 27) = w0 at *
  rintro e w1 ⟨v', rfl, ho, hb⟩
  obtain ⟨ao', cap', rfl⟩ := ho.shape
  have M2 := hid (N2.out.below hb N2.out.lt)
  have M3 := hid (N3.out.trans (hb.mono N3.out.size))
  have HO : Hid (Own w1 (w.heap.size + 2) 3 .i64 (.slice ao' xs.length cap') xs) := ho.lower N2.out.lt
  have r0 := M2.out.cell (i := 0) rfl
  have y0 := M2.out.free 0
  clear ho hb N2 N3
  go_wp2_with fail
  refine bodyPost_ret (v := .agg #[.slice ao' xs.length cap']) (by simp [results, Try.results35, go_sem, r0]) rfl ?_
  exact ⟨_, rfl, (HO.out.setCell_below (a := ⟨w.heap.size + 1, 0, none⟩) (by show w.heap.size + 1 < w.heap.size + 2; omega) _).lower (by omega), M3.out.setCell (p := ⟨w.heap.size + 1, 0, none⟩) (Nat.le_succ _) _⟩

set_option maxRecDepth 100000 in
set_option maxHeartbeats 1600000 in
theorem spec_copy (v : Value) (xs : List Int) (w : World) (hn : xs.length ≤ 1048576) (h : Vp w v xs) :
    Calls Try.prog 49 #[.agg #[v]] w fun e w' => ∃ v', e = .returned (.agg #[v']) ∧ Own w' w.heap.size 3 .i64 v' xs ∧ Below w.heap.size w w' := by
  obtain ⟨ao, cap, rfl, hv, hc, hp⟩ := h
  obtain ⟨n1, n2, n3, n4⟩ := new_three w [.slice ao xs.length cap] [.slice none 0 0] [] 27 27 3
  have N2 := hid n2
  have N4 := hid n4
  have HV0 := hid (hv.below (Nat.le_refl _) n4)
  have HYO := hid hp
  have HO0 : Hid (Own (((w.alloc (.cells #[.slice ao xs.length cap] 27)).alloc (.cells #[.slice none 0 0] 27)).alloc (.cells #[] 3)) (w.heap.size + 2) 3 .i64 (.slice (some ⟨w.heap.size + 1 + 1, 0, none⟩) 0 0) []) := by
    have := Own.empty ((w.alloc (.cells #[.slice ao xs.length cap] 27)).alloc (.cells #[.slice none 0 0] 27)) 3 .i64 (w.heap.size + 2) (by simp)
    exact hid (by simpa using this)
  have hlen : ([] : List Int).length + xs.length < 1000000000000 := by simp; omega
  clear hv hc hp n1 n2 n3 n4
  go_enter Try.func49, Try.ntmps49
  go_wp2_with (at_builtin; refine wpList_appV _ rfl _ _ 24 rfl (w.heap.size + 2) 3 .i64 0 8 Try.underlying24 Try.info3 _ _ rfl HO0.out ao xs.length cap xs rfl HV0.out HYO.out hlen (by decide) ?_)
  intro v3 w3 hown3 hb3
  obtain ⟨ao3, cap3, rfl⟩ := hown3.shape
  have HO3 := hid hown3
  have M2 := hid (N2.out.below hb3 (by omega))
  have M4 := hid (N4.out.trans (hb3.mono (by omega)))
  have r0 := M2.out.cell (i := 0) rfl
  have y0 := M2.out.free 0
  clear hown3 hb3 N2 N4
  go_wp2_with fail
  refine bodyPost_ret (v := .agg #[.slice ao3 xs.length cap3]) (by simp [results, Try.results49, go_sem, r0]) rfl ?_
  refine ⟨_, rfl, ?_, M4.out.setCell (p := ⟨w.heap.size + 1, 0, none⟩) (Nat.le_succ _) _⟩
  have h9 := (HO3.out.setCell_below (a := ⟨w.heap.size + 1, 0, none⟩) (by show w.heap.size + 1 < w.heap.size + 2; omega) (.slice ao3 xs.length cap3)).lower (base' := w.heap.size) (by omega)
  simpa using h9

set_option maxRecDepth 100000 in
set_option maxHeartbeats 1600000 in
theorem has_base (v : Value) (xs : List Int) (B : Int) (w : World) (hn : xs.length ≤ 1048576) (h : Vw w v xs) :
    Calls Try.prog 36 #[.agg #[v], .int .i64 B] w fun e w' => e = .returned (.bool (decide (0 ≤ B ∧ B ≤ (xs.length : Int) - 24))) ∧ Below w.heap.size w w' := by
  obtain ⟨ao, cap, rfl, hv, hc⟩ := h
  clear hv hc
  generalize xs.length = n at *
  by_cases h0 : 0 ≤ B
  · by_cases h1 : B ≤ (n : Int) - 24
    · rw [decide_eq_true ⟨h0, h1⟩]
      go_enter Try.func36, Try.ntmps36
      go_wp2_with fail
      go_ret
      exact ⟨rfl, (Below.refl w.heap.size w).alloc (Nat.le_refl _) _⟩
    · rw [decide_eq_false (fun h => h1 h.2)]
      go_enter Try.func36, Try.ntmps36
      go_wp2_with fail
      go_ret
      exact ⟨rfl, (Below.refl w.heap.size w).alloc (Nat.le_refl _) _⟩
  · rw [decide_eq_false (fun h => h0 h.1)]
    go_enter Try.func36, Try.ntmps36
    go_wp2_with fail
    go_ret
    exact ⟨rfl, (Below.refl w.heap.size w).alloc (Nat.le_refl _) _⟩
end Go.Proofs.Ytimafabbepgifaa
