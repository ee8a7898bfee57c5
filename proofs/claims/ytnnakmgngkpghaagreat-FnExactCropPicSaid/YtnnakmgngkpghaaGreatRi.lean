/- A statement whose order of evaluation Go leaves open, by an invariant: what each operation leaves is kept by all the others, so whatever order is picked comes to the same end. Plain law over the model's regions. -/
import Derived.RegionTactic
import Derived.WalkKit
namespace Go.Proofs.YtnnakmgngkpghaaGreat
open Go
set_option linter.unusedVariables false

theorem ready_nil_all {ops : Array Oper} {md : Region.Mode} {listed : Array Bool} (hsz : listed.size = ops.size) (hpre : ∀ (j : Nat) (o : Oper), ops[j]? = some o → ∀ e ∈ o.after, Region.binds md e = true → e.on < j) (hr : Region.ready md ops listed = []) :
    ∀ n j, j < n → j < ops.size → listed.getD j false = true
  | 0, j, h, _ => by omega
  | n + 1, j, h, hj => by
    by_cases hl : listed.getD j true = false
    · have ho : ops[j]? = some ops[j] := by simp [hj]
      have : j ∈ Region.ready md ops listed := mem_ready.2 ⟨hl, ops[j], ho, fun e he hb => ready_nil_all hsz hpre hr n e.on (by have := hpre j _ ho e he hb; omega) (by have := hpre j _ ho e he hb; omega)⟩
      rw [hr] at this
      cases this
    · have : j < listed.size := by omega
      simp [Array.getD, this] at hl ⊢
      exact hl

theorem pre_of {ops : Array Oper} {md : Region.Mode} (h : (List.range ops.size).all (fun j => match ops[j]? with | some o => o.after.all (fun e => !Region.binds md e || decide (e.on < j)) | none => true) = true) : ∀ (j : Nat) (o : Oper), ops[j]? = some o → ∀ e ∈ o.after, Region.binds md e = true → e.on < j := by
  intro j o ho e he hb
  have hj : j < ops.size := (Array.getElem?_eq_some_iff.1 ho).1
  have h1 := List.all_eq_true.1 h j (List.mem_range.2 hj)
  rw [ho] at h1
  have h2 := Array.all_eq_true_iff_forall_mem.1 h1 e he
  rw [hb] at h2
  simpa using h2

theorem count_set (l : List Bool) : ∀ i, l[i]? = some false → (l.set i true).count false + 1 = l.count false := by
  induction l with
  | nil => intro i h; simp at h
  | cons x xs ih =>
    intro i h
    cases i with
    | zero =>
      simp at h
      subst h
      simp
    | succ i =>
      have := ih i (by simpa using h)
      simp only [List.set_cons_succ, List.count_cons]
      omega

/-- The law: an invariant of the listed operations, kept by each operation that may come up. -/
theorem wpAny_inv {P : Program} {ops : Array Oper} {Q : Exit → Act → World → Prop} {md : Region.Mode} (Inv : Array Bool → Act → World → Prop) (hpre : ∀ (j : Nat) (o : Oper), ops[j]? = some o → ∀ e ∈ o.after, Region.binds md e = true → e.on < j)
    (hstep : ∀ (listed : Array Bool) (a : Act) (w : World) (i : Nat) (o : Oper), listed.size = ops.size → Inv listed a w → ops[i]? = some o → (∀ e ∈ o.after, Region.binds md e = true → listed.getD e.on false = true) → listed.getD i true = false → (∀ (j : Nat) (oj : Oper), ops[j]? = some oj → listed.getD j false = true → ∀ e ∈ oj.after, Region.binds md e = true → listed.getD e.on false = true) → wpOp P ops Q i (fun a' w' => Inv (listed.setIfInBounds i true) a' w') a w)
    (hend : ∀ (listed : Array Bool) (a : Act) (w : World), (∀ j, j < ops.size → listed.getD j false = true) → Inv listed a w → Q .normal a w) :
    ∀ fuel listed a w, listed.size = ops.size → listed.toList.count false ≤ fuel → (∀ (j : Nat) (oj : Oper), ops[j]? = some oj → listed.getD j false = true → ∀ e ∈ oj.after, Region.binds md e = true → listed.getD e.on false = true) → Inv listed a w → wpAny P md ops Q fuel listed a w := by
  intro fuel
  induction fuel with
  | zero =>
    intro listed a w hsz hc hcl hi
    have hnil : Region.ready md ops listed = [] := by
      cases hr : Region.ready md ops listed with
      | nil => rfl
      | cons x xs =>
        have hx : x ∈ Region.ready md ops listed := by rw [hr]; simp
        obtain ⟨h1, o, ho, _⟩ := mem_ready.1 hx
        have hxs : x < listed.size := by rw [hsz]; exact (Array.getElem?_eq_some_iff.1 ho).1
        have h2 : listed.toList[x]? = some false := by
          simp [Array.getD, hxs] at h1
          simp [hxs, h1]
        have := count_set listed.toList x h2
        omega
    exact ⟨hnil, hend listed a w (fun j hj => ready_nil_all hsz hpre hnil (j + 1) j (by omega) hj) hi⟩
  | succ fuel ih =>
    intro listed a w hsz hc hcl hi
    refine ⟨fun hnil => hend listed a w (fun j hj => ready_nil_all hsz hpre hnil (j + 1) j (by omega) hj) hi, fun i hr => ?_⟩
    obtain ⟨h1, o, ho, hall⟩ := mem_ready.1 hr
    have hxs : i < listed.size := by rw [hsz]; exact (Array.getElem?_eq_some_iff.1 ho).1
    have h2 : listed.toList[i]? = some false := by
      simp [Array.getD, hxs] at h1
      simp [hxs, h1]
    have hcs := count_set listed.toList i h2
    have hmon : ∀ k : Nat, listed.getD k false = true → (listed.setIfInBounds i true).getD k false = true := fun k hk => by
      by_cases e : k = i
      · subst e
        simp [Array.getD, hxs]
      · rw [getD_set_ne false (fun h => e h.symm)]
        exact hk
    refine wpOp_mono (fun a' w' h => ih _ a' w' (by simpa using hsz) ?_ ?_ h) (hstep listed a w i o hsz hi ho hall h1 hcl)
    · rw [Array.toList_setIfInBounds]
      omega
    · intro j oj hoj hl e he hb
      by_cases ej : j = i
      · subst ej
        rw [ho] at hoj
        cases hoj
        exact hmon _ (hall e he hb)
      · rw [getD_set_ne false (fun h => ej h.symm)] at hl
        exact hmon _ (hcl j oj hoj hl e he hb)

/-- What the operations have left: V j says what operation j leaves in its temporary D j. -/
def Facts (n : Nat) (V : Nat → Value → World → Prop) (D : Nat → Nat) (listed : Array Bool) (u : Nat → Value) (w : World) : Prop := ∀ j, j < n → listed.getD j false = true → V j (u (D j)) w
def upd (u : Nat → Value) (d : Nat) (v : Value) (k : Nat) : Value := if k = d then v else u k
theorem Facts.step {n : Nat} {V : Nat → Value → World → Prop} {D : Nat → Nat} {listed : Array Bool} {u : Nat → Value} {w w' : World} (h : Facts n V D listed u w) (i : Nat) (v : Value)
    (hD : ∀ j, j < n → j ≠ i → listed.getD j false = true → D j ≠ D i) (hV : ∀ j x, j < n → V j x w → V j x w') (hv : V i v w') : Facts n V D (listed.setIfInBounds i true) (upd u (D i) v) w' := by
  intro j hj hl
  by_cases e : j = i
  · subst e
    simpa [upd] using hv
  · rw [getD_set_ne false (fun h => e h.symm)] at hl
    have h1 : upd u (D i) v (D j) = u (D j) := by simp [upd, hD j hj e hl]
    rw [h1]
    exact hV j _ hj (h j hj hl)
/-- An operation with no temporary of its own. -/
theorem Facts.keep {n : Nat} {V : Nat → Value → World → Prop} {D : Nat → Nat} {listed : Array Bool} {u : Nat → Value} {w w' : World} (h : Facts n V D listed u w) (i : Nat)
    (hV : ∀ j x, j < n → V j x w → V j x w') (hv : V i (u (D i)) w') : Facts n V D (listed.setIfInBounds i true) u w' := by
  intro j hj hl
  by_cases e : j = i
  · subst e
    exact hv
  · rw [getD_set_ne false (fun h => e h.symm)] at hl
    exact hV j _ hj (h j hj hl)
theorem getD_ft {l : Array Bool} {i : Nat} (h : l.getD i false = true) (h' : l.getD i true = false) : False := by
  simp only [Array.getD] at h h'
  split at h <;> simp_all
theorem wanted_if {c : Bool} {A B : Prop} (hc : c = true) (h : A) : if c = true then A else B := by rw [if_pos hc]; exact h
/-- An invariant up to operation L, another one from there on. -/
def Inv2 (L : Nat) (V : Nat → Value → World → Prop) (D : Nat → Nat) (A : World → Prop) (X : (Nat → Value) → Prop) (F : Array Bool → (Nat → Value) → World → Prop) (listed : Array Bool) (u : Nat → Value) (w : World) : Prop :=
  (listed.getD L false = false → A w ∧ X u ∧ Facts L V D listed u w) ∧ (listed.getD L false = true → F listed u w)
theorem Inv2.step {L : Nat} {V : Nat → Value → World → Prop} {D : Nat → Nat} {A : World → Prop} {X : (Nat → Value) → Prop} {F : Array Bool → (Nat → Value) → World → Prop} {listed : Array Bool} {u : Nat → Value} {w w' : World} (i : Nat) (v : Value) (hns : listed.getD L false = false) (h : Facts L V D listed u w)
    (hi : i < L) (hA : A w') (hX : X (upd u (D i) v)) (hD : ∀ j, j < L → j ≠ i → D j ≠ D i) (hV : ∀ j x, j < L → V j x w → V j x w') (hv : V i v w') : Inv2 L V D A X F (listed.setIfInBounds i true) (upd u (D i) v) w' :=
  ⟨fun _ => ⟨hA, hX, h.step i v (fun j hj hne _ => hD j hj hne) hV hv⟩, fun h => by
    rw [getD_set_ne false (show i ≠ L by omega), hns] at h
    cases h⟩
end Go.Proofs.YtnnakmgngkpghaaGreat
