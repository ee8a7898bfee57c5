/- A region whose order is left open: operations that yield one value whatever memory was made meanwhile may be taken first; those that make memory are taken as they come; a store that comes behind all may come last. Plain law over the model's regions. -/
import Derived.Test.YtphhgfgmlfdkiaaQl
namespace Go.Proofs.Ytphhgfgmlfdkiaa
open Go.RowKit
set_option linter.unusedVariables false

/-- Only new memory was made. -/
def Bw (w w' : World) : Prop := Below w.heap.size w w'
theorem Bw.refl (w : World) : Bw w w := Below.refl _ _
theorem Bw.trans {a b c : World} (h : Bw a b) (k : Bw b c) : Bw a c := Below.trans h (Below.mono k (Below.size h))

def wpOpF (P : Program) (ops : Array Oper) (i : Nat) (K : Act → World → Prop) (a : Act) (w : World) : Prop :=
  match ops[i]? with
  | none => False
  | some o => if Region.wanted o (yielded ops a.tmps) then o.wp P a w K (fun _ _ _ => False) else K (a.put o.dst undef) w

theorem Oper.wp_to {P : Program} {o : Oper} {a : Act} {w : World} {K K' : Act → World → Prop} {Q Q' : Exit → Act → World → Prop} (h : ∀ a w, K a w → K' a w) (hQ : ∀ e a w, e ≠ .normal → ¬ Q e a w) (hh : o.wp P a w K Q) : o.wp P a w K' Q' := by
  unfold Oper.wp at *
  generalize (execOp a.eval o).run P w = r at *
  cases r with
  | ok n w' =>
    cases n <;> simp only [Oper.upon] at hh ⊢
    case value => exact h _ _ hh
    case skip => exact h _ _ hh
    case defer => exact h _ _ hh
    case enter => exact Calls.mono hh (fun e w'' he => by
      cases e with
      | returned v => exact h _ _ he
      | panicked c => exact (hQ _ _ _ (by simp) he).elim
      | outgrown => obtain ⟨_, _, hf⟩ := he; exact (hQ _ _ _ (by simp) hf).elim)
    case row => exact Rows.mono hh (fun _ _ he => h _ _ he)
  | halt x w' =>
    cases x <;> simp only [Oper.upon] at hh ⊢
    exact (hQ _ _ _ (by simp) hh).elim
theorem Oper.wp_any {P : Program} {o : Oper} {a : Act} {w : World} {K K' : Act → World → Prop} {Q : Exit → Act → World → Prop} (h : ∀ a w, K a w → K' a w) (hh : o.wp P a w K (fun _ _ _ => False)) : o.wp P a w K' Q := Oper.wp_to h (fun _ _ _ _ h => h) hh
/-- A law of a straight walk, at one operation. -/
theorem wp_of_list {P : Program} {ops : Array Oper} {o : Oper} {a : Act} {w : World} {K : Act → World → Prop} (hg : o.guard = none) (h : wpList P ops (fun e a w => e = .normal ∧ K a w) [o] a w) : o.wp P a w K (fun _ _ _ => False) := by
  unfold wpList at h
  rw [if_pos (by simp [Region.wanted, hg])] at h
  rcases h with h | ⟨_, _, _, h, _⟩
  · exact Oper.wp_to (fun a w hk => hk.2) (fun e a w hne hq => hne hq.1) h
  · cases h

theorem wpOpF_mono {P : Program} {ops : Array Oper} {i : Nat} {K K' : Act → World → Prop} {a : Act} {w : World} (h : ∀ a w, K a w → K' a w) (hh : wpOpF P ops i K a w) : wpOpF P ops i K' a w := by
  unfold wpOpF at *
  split
  · rename_i ho; simp only [ho] at hh
  · rename_i o ho
    simp only [ho] at hh
    split
    · rename_i hw; simp only [hw, if_true] at hh; exact Oper.wp_any h hh
    · rename_i hw; simp only [hw] at hh; exact h _ _ hh

theorem wpOpF_op {P : Program} {ops : Array Oper} {i : Nat} {K K' : Act → World → Prop} {Q : Exit → Act → World → Prop} {a : Act} {w : World} (h : ∀ a w, K a w → K' a w) (hh : wpOpF P ops i K a w) : wpOp P ops Q i K' a w := by
  unfold wpOpF at hh
  unfold wpOp
  split
  · rename_i ho; simp only [ho] at hh
  · rename_i o ho
    simp only [ho] at hh
    split
    · rename_i hw; simp only [hw, if_true] at hh; exact .inl (Oper.wp_any h hh)
    · rename_i hw; simp only [hw] at hh; exact h _ _ hh

/-- Operation o yields v in every world behind w, and makes new memory alone. -/
def YieldsR (P : Program) (ops : Array Oper) (o : Oper) (v : Value) (a : Act) (w : World) : Prop :=
  (Region.wanted o (yielded ops a.tmps) = true ∧ ∀ w1, Bw w w1 → o.quietAt P a (Bw w1) w1 v) ∨ (Region.wanted o (yielded ops a.tmps) = false ∧ v = undef)
theorem YieldsR.of_same {P : Program} {ops : Array Oper} {o : Oper} {v : Value} {a a' : Act} {w w' : World} (hy : YieldsR P ops o v a w) (hb : Bw w w') (he : execOp a'.eval o = execOp a.eval o)
    (hw : Region.wanted o (yielded ops a'.tmps) = Region.wanted o (yielded ops a.tmps)) : YieldsR P ops o v a' w' := by
  unfold YieldsR Oper.quietAt at *
  rw [he, hw]
  rcases hy with ⟨h1, h2⟩ | h1
  · exact .inl ⟨h1, fun w1 h => h2 w1 (hb.trans h)⟩
  · exact .inr h1
theorem YieldsR.op {P : Program} {ops : Array Oper} {i : Nat} {o : Oper} {v : Value} {a : Act} {w w1 : World} (hi : ops[i]? = some o) (hy : YieldsR P ops o v a w) (h1 : Bw w w1) {K : Act → World → Prop} (h : ∀ w', Bw w1 w' → K (a.put o.dst v) w') : wpOpF P ops i K a w1 := by
  unfold wpOpF
  simp only [hi]
  rcases hy with ⟨hw, hv⟩ | ⟨hw, rfl⟩
  · simp only [hw, if_true]
    have h3 := hv w1 h1
    unfold Oper.quietAt at h3
    unfold Oper.wp
    generalize (execOp a.eval o).run P w1 = r at *
    cases r with
    | ok n w' =>
      cases n <;> simp only [Oper.quietUpon] at h3 <;> simp only [Oper.upon]
      case value u => obtain ⟨e1, e2⟩ := h3; rw [e1, e2]; exact h _ (Bw.refl _)
      case skip => obtain ⟨e1, e2⟩ := h3; rw [e1, ← e2]; exact h _ (Bw.refl _)
      case enter f args =>
        obtain ⟨e1, hc⟩ := h3
        rw [e1]
        exact hc.mono fun e w'' ⟨he, hw''⟩ => by subst he; exact h _ hw''
    | halt x w' => simp only [Oper.quietUpon] at h3
  · simp only [hw, Bool.false_eq_true, if_false]
    exact h _ (Bw.refl _)

theorem wpOpF_put {P : Program} {ops : Array Oper} {j : Nat} {oi oj : Oper} {v : Value} (hj : ops[j]? = some oj) (hap : oi.apart ops oj = true) (hsi : ∀ cs b, oi.op ≠ .select cs b) (hsj : ∀ cs b, oj.op ≠ .select cs b) {K : Act → World → Prop} {a : Act} {w : World}
    (h : wpOpF P ops j K (a.put oi.dst v) w) : wpOpF P ops j (fun a' w' => K (a'.put oi.dst v) w' ∧ execOp a'.eval oi = execOp a.eval oi ∧ Region.wanted oi (yielded ops a'.tmps) = Region.wanted oi (yielded ops a.tmps)) a w := by
  obtain ⟨h1, h2, h3⟩ := Oper.apart_spec hap
  have keep : ∀ u, execOp (a.put oj.dst u).eval oi = execOp a.eval oi ∧ Region.wanted oi (yielded ops (a.put oj.dst u).tmps) = Region.wanted oi (yielded ops a.tmps) := fun u => ⟨execOp_put oi hsi a oj.dst u h3, wanted_put oi a oj.dst u h3⟩
  have comm : ∀ u, (a.put oi.dst v).put oj.dst u = (a.put oj.dst u).put oi.dst v := fun u => Act.put_comm a v u h2
  unfold wpOpF at *
  simp only [hj] at *
  rw [wanted_put oj a oi.dst v h1] at h
  split
  · rename_i hw
    simp only [hw, if_true] at h
    unfold Oper.wp at *
    rw [execOp_put oj hsj a oi.dst v h1] at h
    generalize (execOp a.eval oj).run P w = r at *
    cases r with
    | ok n w' =>
      cases n <;> simp only [Oper.upon] at h ⊢
      case value u => rw [comm] at h; exact ⟨h, keep u⟩
      case skip => rw [comm] at h; exact ⟨h, keep undef⟩
      case defer d =>
        have e1 : ({ (a.put oi.dst v) with defers := d :: (a.put oi.dst v).defers } : Act).put oj.dst undef = (({ a with defers := d :: a.defers } : Act).put oj.dst undef).put oi.dst v := by
          rw [← Act.put_comm _ v undef h2]
          cases oi.dst <;> rfl
        rw [e1] at h
        refine ⟨h, ?_⟩
        have := keep undef
        cases hd : oj.dst <;> rw [hd] at this <;> exact this
      case enter f args => exact Calls.mono h (fun e w'' he => by
        cases e with
        | returned u => simp only at he ⊢; rw [comm] at he; exact ⟨he, keep u⟩
        | panicked c => exact he
        | outgrown => exact he)
      case row => exact Rows.mono h (fun u _ he => by rw [comm] at he; exact ⟨he, keep u⟩)
    | halt x w' => cases x <;> simp only [Oper.upon] at h ⊢
  · rename_i hw
    simp only [hw] at h
    rw [comm] at h
    exact ⟨h, keep undef⟩

/-- Whether operation j comes behind all the others. -/
def lastT (md : Region.Mode) (ops : Array Oper) (j : Nat) : Bool :=
  match ops[j]? with
  | some o => (List.range ops.size).all (fun i => i == j || o.after.any (fun e => Region.binds md e && e.on == i))
  | none => false
theorem lastT_spec {md : Region.Mode} {ops : Array Oper} {j : Nat} {oj : Oper} (hj : ops[j]? = some oj) (h : lastT md ops j = true) (i : Nat) (hi : i < ops.size) (hne : i ≠ j) : ∃ e ∈ oj.after, Region.binds md e = true ∧ e.on = i := by
  simp only [lastT, hj, List.all_eq_true, List.mem_range, Bool.or_eq_true, beq_iff_eq] at h
  rcases h i hi with h | h
  · exact absurd h hne
  · obtain ⟨k, hk, h2⟩ := Array.any_eq_true.1 h
    simp only [Bool.and_eq_true, beq_iff_eq] at h2
    exact ⟨oj.after[k], Array.getElem_mem hk, h2.1, h2.2⟩

/-- The operations that operation j waits for; and those that these wait for. -/
def deps (md : Region.Mode) (ops : Array Oper) (j : Nat) : List Nat :=
  match ops[j]? with
  | some o => (o.after.toList.filter (fun e => Region.binds md e)).map (fun e => e.on)
  | none => []
def reach (md : Region.Mode) (ops : Array Oper) (j : Nat) : List Nat := (List.range ops.size).reverse.foldl (fun R k => if R.contains k then R ++ deps md ops k else R) (deps md ops j)
/-- Whether every other operation comes ahead of j or waits for j. -/
def exB (md : Region.Mode) (ops : Array Oper) (j : Nat) : Bool := (List.range ops.size).all fun k => k == j || (reach md ops j).contains k || (deps md ops k).contains j
def Cl (md : Region.Mode) (ops : Array Oper) (listed : Array Bool) : Prop := ∀ k, listed.getD k false = true → ∀ d ∈ deps md ops k, listed.getD d false = true
theorem deps_ready {md : Region.Mode} {ops : Array Oper} {listed : Array Bool} {j : Nat} (h : j ∈ Region.ready md ops listed) : ∀ d ∈ deps md ops j, listed.getD d false = true := by
  intro d hd
  obtain ⟨_, o, ho, hall⟩ := mem_ready.1 h
  simp only [deps, ho, List.mem_map, List.mem_filter] at hd
  obtain ⟨e, ⟨he, hb⟩, rfl⟩ := hd
  exact hall e (by simpa using he) hb
theorem reach_ready {md : Region.Mode} {ops : Array Oper} {listed : Array Bool} {j : Nat} (hc : Cl md ops listed) (h : j ∈ Region.ready md ops listed) : ∀ d ∈ reach md ops j, listed.getD d false = true := by
  have key : ∀ (l R : List Nat), (∀ d ∈ R, listed.getD d false = true) → ∀ d ∈ l.foldl (fun R k => if R.contains k then R ++ deps md ops k else R) R, listed.getD d false = true := by
    intro l
    induction l with
    | nil => intro R h; exact h
    | cons k l ih =>
      intro R hR
      refine ih _ ?_
      by_cases hk : R.contains k = true
      · simp only [hk, if_true]
        intro d hd
        rcases List.mem_append.1 hd with hd | hd
        · exact hR d hd
        · exact hc k (hR k (by simpa using hk)) d hd
      · simp only [hk]
        exact hR
  exact key _ _ (deps_ready h)
theorem Cl.step {md : Region.Mode} {ops : Array Oper} {listed : Array Bool} {j : Nat} (hc : Cl md ops listed) (h : j ∈ Region.ready md ops listed) : Cl md ops (listed.setIfInBounds j true) := by
  intro k hk d hd
  have hmon : listed.getD d false = true → (listed.setIfInBounds j true).getD d false = true := fun h1 => by
    by_cases e : d = j
    · subst e
      simp only [Array.getD, Array.size_setIfInBounds] at h1 ⊢
      split at h1 <;> simp_all
    · rw [getD_set_ne false (fun h => e h.symm)]; exact h1
  by_cases e : k = j
  · subst e
    exact hmon (deps_ready h d hd)
  · rw [getD_set_ne false (fun h => e h.symm)] at hk
    exact hmon (hc k hk d hd)
def clB (md : Region.Mode) (ops : Array Oper) (listed : Array Bool) : Bool := (List.range listed.size).all fun k => !(listed.getD k false) || (deps md ops k).all fun d => listed.getD d false
theorem clB_spec {md : Region.Mode} {ops : Array Oper} {listed : Array Bool} (h : clB md ops listed = true) : Cl md ops listed := by
  intro k hk d hd
  have hks : k < listed.size := by
    simp only [Array.getD] at hk
    split at hk
    · assumption
    · cases hk
  have h1 := List.all_eq_true.1 h k (List.mem_range.2 hks)
  rw [hk] at h1
  simp only [Bool.not_true, Bool.false_or] at h1
  exact List.all_eq_true.1 h1 d hd

/-- Whatever order is picked from here on, and whatever memory is made besides. -/
def AnyR (P : Program) (md : Region.Mode) (ops : Array Oper) (Q : Act → World → Prop) : Nat → Array Bool → Act → World → Prop
  | 0, listed, a, w => Region.ready md ops listed = [] ∧ ∀ w1, Bw w w1 → Q a w1
  | fuel + 1, listed, a, w => ∀ w1, Bw w w1 → (Region.ready md ops listed = [] → Q a w1) ∧
    ∀ i ∈ Region.ready md ops listed, wpOpF P ops i (fun a' w' => if lastT md ops i = true then Q a' w' else (exB md ops i = true ∨ Bw w1 w') ∧ AnyR P md ops Q fuel (listed.setIfInBounds i true) a' w') a w1

theorem AnyR.mono {P : Program} {md : Region.Mode} {ops : Array Oper} {Q : Act → World → Prop} {fuel : Nat} {listed : Array Bool} {a : Act} {w w' : World} (hb : Bw w w') (h : AnyR P md ops Q fuel listed a w) : AnyR P md ops Q fuel listed a w' := by
  cases fuel with
  | zero => exact ⟨h.1, fun w1 h1 => h.2 w1 (hb.trans h1)⟩
  | succ f => exact fun w1 h1 => h w1 (hb.trans h1)

theorem AnyR.any {P : Program} {md : Region.Mode} {ops : Array Oper} {Q : Act → World → Prop} {Q' : Exit → Act → World → Prop} (hQ : ∀ a w, Q a w → Q' .normal a w) : ∀ (fuel : Nat) (listed : Array Bool) (a : Act) (w : World), listed.size = ops.size → AnyR P md ops Q fuel listed a w → wpAny P md ops Q' fuel listed a w
  | 0, _, _, w, _, h => ⟨h.1, hQ _ _ (h.2 w (Bw.refl _))⟩
  | fuel + 1, listed, a, w, hsz, h => ⟨fun h0 => hQ _ _ ((h w (Bw.refl _)).1 h0), fun i hi => wpOpF_op (fun a' w' hk => by
      by_cases hT : lastT md ops i = true
      · simp only [hT, if_true] at hk
        refine wpAny_done _ a' w' (fun j hj => ?_) (hQ _ _ hk) fuel
        by_cases e : j = i
        · subst e
          simp [Array.getD, hsz, hj]
        · obtain ⟨_, oi, ho, hall⟩ := mem_ready.1 hi
          obtain ⟨ed, he, hb, rfl⟩ := lastT_spec ho hT j hj e
          rw [getD_set_ne false (fun h => e h.symm)]
          exact hall ed he hb
      · simp only [hT] at hk
        exact AnyR.any hQ fuel _ a' w' (by simpa using hsz) hk.2) ((h w (Bw.refl _)).2 i hi)⟩

theorem AnyR.first {P : Program} {md : Region.Mode} {ops : Array Oper} {Q : Act → World → Prop} {i : Nat} {oi : Oper} {v : Value} (hi : ops[i]? = some oi) (hsel : ∀ (j : Nat) (o : Oper) cs b, ops[j]? = some o → o.op ≠ .select cs b) :
    ∀ (fuel : Nat) (listed : Array Bool) (a : Act) (w : World), Cl md ops listed →
      (∀ j oj, ops[j]? = some oj → j ≠ i → listed.getD j true = false → (∀ e ∈ oj.after, Region.binds md e = true → e.on ≠ i) → oi.apart ops oj = true) →
      i ∈ Region.ready md ops listed → YieldsR P ops oi v a w →
      AnyR P md ops Q fuel (listed.setIfInBounds i true) (a.put oi.dst v) w → AnyR P md ops Q (fuel + 1) listed a w := by
  have own : ∀ (fuel : Nat) (listed : Array Bool) (a : Act) (w w1 : World), Bw w w1 → i ∈ Region.ready md ops listed → YieldsR P ops oi v a w → AnyR P md ops Q fuel (listed.setIfInBounds i true) (a.put oi.dst v) w →
      wpOpF P ops i (fun a' w' => if lastT md ops i = true then Q a' w' else (exB md ops i = true ∨ Bw w1 w') ∧ AnyR P md ops Q fuel (listed.setIfInBounds i true) a' w') a w1 := by
    intro fuel listed a w w1 h1 hr hy H
    refine hy.op hi h1 (fun w' hb => ?_)
    split
    · rename_i hT
      have hnil : ∀ k, k ∉ Region.ready md ops (listed.setIfInBounds i true) := fun k hk => by
        obtain ⟨k1, ok, hok, _⟩ := mem_ready.1 hk
        have hks : k < ops.size := (Array.getElem?_eq_some_iff.1 hok).1
        by_cases e : k = i
        · subst e
          simp only [Array.getD, Array.size_setIfInBounds] at k1
          split at k1
          · simp at k1
          · cases k1
        · obtain ⟨_, oi', hoi', hall⟩ := mem_ready.1 hr
          rw [hi] at hoi'
          cases hoi'
          obtain ⟨ed, he, hbb, rfl⟩ := lastT_spec hi hT k hks e
          have h2 := hall ed he hbb
          rw [getD_set_ne true (fun h => e h.symm)] at k1
          simp only [Array.getD] at k1 h2
          split at h2 <;> simp_all
      cases fuel with
      | zero => exact H.2 w' (h1.trans hb)
      | succ f => exact (H w' (h1.trans hb)).1 (List.eq_nil_iff_forall_not_mem.2 hnil)
    · exact ⟨.inr hb, H.mono (h1.trans hb)⟩
  intro fuel
  induction fuel with
  | zero =>
    intro listed a w _ _ hr hy H w1 h1
    refine ⟨fun h => (by rw [h] at hr; cases hr), fun j hj => ?_⟩
    by_cases hji : j = i
    · subst hji
      exact own 0 listed a w w1 h1 hr hy H
    · have := ready_mono hj hji
      rw [H.1] at this
      cases this
  | succ fuel ih =>
    intro listed a w hcl hfree hr hy H w1 h1
    refine ⟨fun h => (by rw [h] at hr; cases hr), fun j hj => ?_⟩
    by_cases hji : j = i
    · subst hji
      exact own (fuel + 1) listed a w w1 h1 hr hy H
    · have h2 := (H w1 h1).2 j (ready_mono hj hji)
      obtain ⟨hjun, oj, hoj, hall⟩ := mem_ready.1 hj
      have hnot : ∀ e ∈ oj.after, Region.binds md e = true → e.on ≠ i := fun e he hb heq => by
        have h1 := hall e he hb
        have h0 := (mem_ready.1 hr).1
        rw [heq] at h1
        simp only [Array.getD] at h0 h1
        split at h1 <;> simp_all
      have hTj : ¬ lastT md ops j = true := fun hT => by
        have his : i < ops.size := (Array.getElem?_eq_some_iff.1 hi).1
        obtain ⟨ed, he, hbb, e⟩ := lastT_spec hoj hT i his (Ne.symm hji)
        exact hnot ed he hbb e
      have h3 := wpOpF_put hoj (hfree j oj hoj hji hjun hnot) (fun cs b => hsel i oi cs b hi) (fun cs b => hsel j oj cs b hoj) h2
      have hfree' : ∀ k ok, ops[k]? = some ok → k ≠ i → (listed.setIfInBounds j true).getD k true = false →
          (∀ e ∈ ok.after, Region.binds md e = true → e.on ≠ i) → oi.apart ops ok = true := fun k ok hk hki hun hno => by
        refine hfree k ok hk hki ?_ hno
        by_cases hjk : j = k
        · subst hjk; exact hjun
        · rw [getD_set_ne true hjk] at hun; exact hun
      refine wpOpF_mono (fun a' w' h4 => ?_) h3
      simp only [hTj] at h4 ⊢
      obtain ⟨⟨h5, h6⟩, h7, h8⟩ := h4
      replace h5 : Bw w1 w' := h5.resolve_left fun hx => by
        have his : i < ops.size := (Array.getElem?_eq_some_iff.1 hi).1
        have hx1 := List.all_eq_true.1 hx i (List.mem_range.2 his)
        simp only [Bool.or_eq_true, beq_iff_eq, List.contains_iff_mem] at hx1
        have h0 := (mem_ready.1 hr).1
        rcases hx1 with (hx1 | hx1) | hx1
        · exact hji hx1.symm
        · have := reach_ready hcl hj i hx1
          simp only [Array.getD] at h0 this
          split at this <;> simp_all
        · have := deps_ready hr j hx1
          simp only [Array.getD] at hjun this
          split at this <;> simp_all
      refine ⟨.inr h5, ih (listed.setIfInBounds j true) a' w' (hcl.step hj) hfree' (ready_mono hr (Ne.symm hji)) (hy.of_same (h1.trans h5) h7 h8) ?_⟩
      rw [Array.setIfInBounds_comm _ _ hji]
      exact h6

/-- An operation that yields one value: it is taken first. -/
theorem anyR_quiet {P : Program} {md : Region.Mode} {ops : Array Oper} {Q : Act → World → Prop} {fuel : Nat} {listed : Array Bool} {a : Act} {w : World} (i : Nat) {oi : Oper} (hi : ops[i]? = some oi) (hs : Region.noSelect ops = true) (hr : (Region.ready md ops listed).contains i = true) (hf : (Region.free md ops listed i && clB md ops listed) = true)
    (h : ∀ K : Act → World → Prop, (∀ a, AnyR P md ops Q fuel (listed.setIfInBounds i true) a w → K a w) → if Region.wanted oi (yielded ops a.tmps) then ∃ v, (∀ w1, Bw w w1 → oi.quietAt P a (Bw w1) w1 v) ∧ K (a.put oi.dst v) w else K (a.put oi.dst undef) w) : AnyR P md ops Q (fuel + 1) listed a w := by
  have h0 := h (fun a' w' => AnyR P md ops Q fuel (listed.setIfInBounds i true) a' w) (fun a' h => h)
  have hr' : i ∈ Region.ready md ops listed := by simpa using hr
  simp only [Bool.and_eq_true] at hf
  obtain ⟨hf, hcl⟩ := hf
  by_cases hw : Region.wanted oi (yielded ops a.tmps) = true
  · rw [if_pos hw] at h0
    obtain ⟨v, h1, h2⟩ := h0
    exact AnyR.first hi (Region.noSelect_spec hs) fuel listed a w (clB_spec hcl) (Region.free_spec hi hf) hr' (.inl ⟨hw, h1⟩) h2
  · rw [if_neg hw] at h0
    exact AnyR.first hi (Region.noSelect_spec hs) fuel listed a w (clB_spec hcl) (Region.free_spec hi hf) hr' (.inr ⟨by simpa using hw, rfl⟩) h0

/-- The one operation that may come up now. -/
theorem anyR_one {P : Program} {md : Region.Mode} {ops : Array Oper} {Q : Act → World → Prop} {fuel : Nat} {listed : Array Bool} {a : Act} {w : World} (i : Nat) {oi : Oper} (hi : ops[i]? = some oi) (hr : Region.ready md ops listed = [i]) (hT : lastT md ops i = false)
    (h : ∀ w1, Bw w w1 → ∀ K : Act → World → Prop, (∀ a' w', (exB md ops i = true ∨ Bw w1 w') → AnyR P md ops Q fuel (listed.setIfInBounds i true) a' w' → K a' w') → if Region.wanted oi (yielded ops a.tmps) then oi.wp P a w1 K (fun _ _ _ => False) else K (a.put oi.dst undef) w1) : AnyR P md ops Q (fuel + 1) listed a w := by
  intro w1 h1
  refine ⟨fun e => (by rw [hr] at e; cases e), fun j hj => ?_⟩
  rw [hr] at hj
  obtain rfl : j = i := by simpa using hj
  unfold wpOpF
  simp only [hi, hT]
  exact h w1 h1 _ (fun a' w' hb hk => ⟨hb, hk⟩)
/-- The same for one without a guard. -/
theorem anyR_call {P : Program} {md : Region.Mode} {ops : Array Oper} {Q : Act → World → Prop} {fuel : Nat} {listed : Array Bool} {a : Act} {w : World} (i : Nat) {oi : Oper} (hi : ops[i]? = some oi) (hg : oi.guard = none) (hr : Region.ready md ops listed = [i]) (hT : lastT md ops i = false)
    (h : ∀ w1, Bw w w1 → ∀ K : Act → World → Prop, (∀ a' w', (exB md ops i = true ∨ Bw w1 w') → AnyR P md ops Q fuel (listed.setIfInBounds i true) a' w' → K a' w') → oi.wp P a w1 K (fun _ _ _ => False)) : AnyR P md ops Q (fuel + 1) listed a w :=
  anyR_one i hi hr hT (fun w1 h1 K hK => by
    rw [if_pos (by simp [Region.wanted, hg])]
    exact h w1 h1 K hK)
/-- The last operation. -/
theorem anyR_last {P : Program} {md : Region.Mode} {ops : Array Oper} {Q : Act → World → Prop} {fuel : Nat} {listed : Array Bool} {a : Act} {w : World} (i : Nat) {oi : Oper} (hi : ops[i]? = some oi) (hr : Region.ready md ops listed = [i]) (hT : lastT md ops i = true)
    (h : ∀ w1, Bw w w1 → ∀ K : Act → World → Prop, (∀ a' w', Q a' w' → K a' w') → if Region.wanted oi (yielded ops a.tmps) then oi.wp P a w1 K (fun _ _ _ => False) else K (a.put oi.dst undef) w1) : AnyR P md ops Q (fuel + 1) listed a w := by
  intro w1 h1
  refine ⟨fun e => (by rw [hr] at e; cases e), fun j hj => ?_⟩
  rw [hr] at hj
  obtain rfl : j = i := by simpa using hj
  unfold wpOpF
  simp only [hi, hT]
  exact h w1 h1 _ (fun a' w' hk => hk)
theorem anyR_nil {P : Program} {md : Region.Mode} {ops : Array Oper} {Q : Act → World → Prop} {listed : Array Bool} {a : Act} {w : World} (hr : Region.ready md ops listed = []) (h : ∀ w1, Bw w w1 → Q a w1) : AnyR P md ops Q 0 listed a w := ⟨hr, h⟩

theorem region_R {P : Program} {id : Nat} {Q : Exit → Act → World → Prop} {a : Act} {w : World} {ops : Array Oper} (hm : P.follows .mixedOrders = true) (h : AnyR P .any ops (fun a' w' => Q .normal a' w') ops.size (Array.replicate ops.size false) a w) : (Code.region id ops true).wp P Q a w :=
  wp_region_any hm (AnyR.any (fun _ _ h => h) _ _ _ _ (by simp) (h.mono ((Below.refl _ _).drew)))
end Go.Proofs.Ytphhgfgmlfdkiaa
