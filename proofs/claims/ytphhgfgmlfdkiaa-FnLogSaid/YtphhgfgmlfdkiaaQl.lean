/- A region whose order is left open, whose operations leave worlds of one kind alone, but for the last one, which comes behind all: one walk of the text's order. Plain law over the model's regions. -/
import Derived.Test.YtphhgfgmlfdkiaaRi
import Derived.Test.YtphhgfgmlfdkiaaGr
import Derived.Deep.QuietTactic
namespace Go.Proofs.Ytphhgfgmlfdkiaa
open Go.RowKit
set_option linter.unusedVariables false

theorem wpAny_done {P : Program} {md : Region.Mode} {ops : Array Oper} {Q : Exit → Act → World → Prop} (listed : Array Bool) (a : Act) (w : World) (hall : ∀ j, j < ops.size → listed.getD j false = true) (h : Q .normal a w) : ∀ fuel, wpAny P md ops Q fuel listed a w := by
  have hnil : Region.ready md ops listed = [] := by
    cases hr : Region.ready md ops listed with
    | nil => rfl
    | cons x xs =>
      have hx : x ∈ Region.ready md ops listed := by rw [hr]; simp
      obtain ⟨h1, o, ho, _⟩ := mem_ready.1 hx
      have hxs : x < ops.size := (Array.getElem?_eq_some_iff.1 ho).1
      have := hall x hxs
      simp only [Array.getD] at h1 this
      split at this <;> simp_all
  intro fuel
  cases fuel with
  | zero => exact ⟨hnil, h⟩
  | succ n => exact ⟨fun _ => h, fun i hi => by rw [hnil] at hi; cases hi⟩

theorem wpOp_push {P : Program} {l : Array Oper} {o : Oper} {Q : Exit → Act → World → Prop} {i : Nat} {K : Act → World → Prop} {a : Act} {w : World} (hi : i < l.size) (hg : ∀ oi, l[i]? = some oi → oi.guard = none) (h : wpOp P l Q i K a w) : wpOp P (l.push o) Q i K a w := by
  unfold wpOp at *
  have he : (l.push o)[i]? = l[i]? := by rw [Array.getElem?_push]; simp; omega
  rw [he]
  have ho : l[i]? = some l[i] := by simp [hi]
  rw [ho] at h ⊢
  have hgi := hg _ ho
  simp only [Region.wanted, hgi] at h ⊢
  exact h

theorem quiet_last {P : Program} {md : Region.Mode} {l : Array Oper} {o : Oper} {C : World → Prop} {Q : Act → Prop} {Q' : Exit → Act → World → Prop} (hg : ∀ (i : Nat) (oi : Oper), l[i]? = some oi → oi.guard = none)
    (hpre : ∀ (j : Nat) (oj : Oper), l[j]? = some oj → ∀ e ∈ oj.after, Region.binds md e = true → e.on < j) (hlast : ∀ j, j < l.size → ∃ e ∈ o.after, Region.binds md e = true ∧ e.on = j)
    (hin : ∀ e ∈ o.after, Region.binds md e = true → e.on < l.size)
    (hQ : ∀ a w, C w → Q a → wpOp P (l.push o) Q' l.size (fun a' w' => Q' .normal a' w') a w) :
    ∀ fuel listed a w, listed.size = l.size → C w → wpAnyQ P md l C Q fuel listed a → wpAny P md (l.push o) Q' (fuel + 1) (listed.push false) a w := by
  have key : ∀ (listed : Array Bool) i, listed.size = l.size → i ∈ Region.ready md (l.push o) (listed.push false) → i ∈ Region.ready md l listed ∨ (i = l.size ∧ Region.ready md l listed = [] ∧ ∀ j, j < l.size → listed.getD j false = true) := by
    intro listed i hsz hi
    obtain ⟨h1, oi, ho, ha⟩ := mem_ready.1 hi
    have hip : i < (l.push o).size := (Array.getElem?_eq_some_iff.1 ho).1
    rw [Array.size_push] at hip
    by_cases hlt : i < l.size
    · left
      refine mem_ready.2 ⟨?_, oi, ?_, fun e he hb => ?_⟩
      · simpa [Array.getD, hsz, hlt, show i < l.size + 1 by omega, Array.getElem_push] using h1
      · rw [Array.getElem?_push] at ho
        simpa [show ¬ i = l.size by omega] using ho
      · have h2 := ha e he hb
        have h3 : e.on < i := hpre i oi (by rw [Array.getElem?_push] at ho; simpa [show ¬ i = l.size by omega] using ho) e he hb
        simpa [Array.getD, hsz, show e.on < l.size by omega, show e.on < l.size + 1 by omega, Array.getElem_push] using h2
    · obtain rfl : i = l.size := by omega
      right
      rw [Array.getElem?_push] at ho
      have : oi = o := by simpa using ho.symm
      subst this
      have hall : ∀ j, j < l.size → listed.getD j false = true := fun j hj => by
        obtain ⟨e, he, hb, rfl⟩ := hlast j hj
        have h2 := ha e he hb
        simpa [Array.getD, hsz, hj, show e.on < l.size + 1 by omega, Array.getElem_push] using h2
      refine ⟨rfl, ?_, hall⟩
      cases hr : Region.ready md l listed with
      | nil => rfl
      | cons x xs =>
        have hx : x ∈ Region.ready md l listed := by rw [hr]; simp
        obtain ⟨k1, ox, kx, _⟩ := mem_ready.1 hx
        have hxs : x < l.size := (Array.getElem?_eq_some_iff.1 kx).1
        have := hall x hxs
        simp only [Array.getD] at k1 this
        split at this <;> simp_all
  have key2 : ∀ (listed : Array Bool), listed.size = l.size → Region.ready md (l.push o) (listed.push false) = [] → False := by
    intro listed hsz hr
    have hall := ready_nil_all (ops := l.push o) (listed := listed.push false) (md := md) (by simp [hsz]) (fun j oj hj e he hb => by
      rw [Array.getElem?_push] at hj
      by_cases hjl : j = l.size
      · subst hjl
        have : oj = o := by simpa using hj.symm
        subst this
        exact hin e he hb
      · exact hpre j oj (by simpa [hjl] using hj) e he hb) hr (l.size + 1) l.size (by omega) (by simp)
    simp [Array.getD, hsz, Array.getElem_push] at hall
  have fin : ∀ (listed : Array Bool) a w, listed.size = l.size → C w → Q a → (∀ j, j < l.size → listed.getD j false = true) → ∀ fuel, wpOp P (l.push o) Q' l.size (wpAny P md (l.push o) Q' fuel ((listed.push false).setIfInBounds l.size true)) a w := by
    intro listed a w hsz hC hq hall fuel
    refine wpOp_mono (fun a' w' h => wpAny_done _ a' w' (fun j hj => ?_) h fuel) (hQ a w hC hq)
    rw [Array.size_push] at hj
    by_cases e : j = l.size
    · subst e
      simp [Array.getD, hsz]
    · rw [getD_set_ne false (fun h => e h.symm)]
      have := hall j (by omega)
      simpa [Array.getD, hsz, show j < l.size by omega, show j < l.size + 1 by omega, Array.getElem_push] using this
  intro fuel
  induction fuel with
  | zero =>
    intro listed a w hsz hC h
    refine ⟨fun hr => (key2 listed hsz hr).elim, fun i hi => ?_⟩
    rcases key listed i hsz hi with h1 | ⟨rfl, h2, h3⟩
    · rw [h.1] at h1
      cases h1
    · exact fin listed a w hsz hC h.2 h3 0
  | succ fuel ih =>
    intro listed a w hsz hC h
    refine ⟨fun hr => (key2 listed hsz hr).elim, fun i hi => ?_⟩
    rcases key listed i hsz hi with h1 | ⟨rfl, h2, h3⟩
    · obtain ⟨_, oi, ho, _⟩ := mem_ready.1 h1
      have hil : i < l.size := (Array.getElem?_eq_some_iff.1 ho).1
      have hset : (listed.push false).setIfInBounds i true = (listed.setIfInBounds i true).push false := by
        apply Array.ext'
        rw [Array.toList_setIfInBounds, Array.toList_push, Array.toList_push, Array.toList_setIfInBounds, List.set_append_left _ _ (by simpa [hsz] using hil)]
      rw [hset]
      exact wpOp_push hil (fun oi' ho' => hg i oi' ho') (wpOp_of_qOp hC (fun a' w' hC' hk => ih _ a' w' (by simpa using hsz) hC' hk) (h.2 i h1))
    · exact fin listed a w hsz hC (h.1 h2) h3 _

/-- Whether the last operation of a region comes behind all the others, and no operation hangs on another's answer. -/
def lastB (ops : List Oper) : Bool :=
  ops.dropLast.all (fun o => o.guard.isNone) && (List.range ops.dropLast.length).all (fun j => match ops.dropLast[j]? with | some o => o.after.all (fun e => !Region.binds .any e || decide (e.on < j)) | none => true) &&
    match ops.getLast? with
    | some o => (List.range (ops.length - 1)).all (fun j => o.after.any (fun e => Region.binds .any e && e.on == j)) && o.after.all (fun e => !Region.binds .any e || decide (e.on < ops.length - 1))
    | none => false

theorem region_last {P : Program} {id : Nat} {Q : Exit → Act → World → Prop} {a : Act} {w : World} {l : List Oper} (C : World → Prop) (hm : P.follows .mixedOrders = true) (hB : Region.lexB .any l.dropLast.toArray = true) (hL : lastB l = true) (hC : C w.drew)
    (h : wpQuiet P l.dropLast.toArray C (fun a' => ∀ w', C w' → wpOp P l.toArray Q (l.length - 1) (fun a'' w'' => Q .normal a'' w'') a' w') l.dropLast a) : (Code.region id l.toArray true).wp P Q a w := by
  simp only [Region.lexB, Bool.and_eq_true] at hB
  simp only [lastB, Bool.and_eq_true] at hL
  obtain ⟨⟨hL1, hL2⟩, hL3⟩ := hL
  have hne : l ≠ [] := by
    intro e
    subst e
    simp at hL3
  obtain ⟨o, hlo, hsp⟩ : ∃ o, l.getLast? = some o ∧ l = l.dropLast ++ [o] := ⟨l.getLast hne, List.getLast?_eq_some_getLast hne, (List.dropLast_concat_getLast hne).symm⟩
  rw [hlo] at hL3
  simp only [Bool.and_eq_true] at hL3
  obtain ⟨hL3, hL4⟩ := hL3
  have hlen : l.length - 1 = l.dropLast.toArray.size := by simp
  have harr : l.toArray = l.dropLast.toArray.push o := by
    rw [List.push_toArray, ← hsp]
  have hq := wpAnyQ_lex (C := C) (md := .any) hB.1 l.dropLast.toArray.toList 0 (Array.replicate l.dropLast.toArray.size false) a (by simp) (by simpa using hB.2) h
  have hg : ∀ (i : Nat) (oi : Oper), l.dropLast.toArray[i]? = some oi → oi.guard = none := fun i oi hi => by
    have hm : oi ∈ l.dropLast := by
      have : l.dropLast[i]? = some oi := by simpa using hi
      exact List.mem_of_getElem? this
    have := List.all_eq_true.1 hL1 oi hm
    simpa using this
  have hpre : ∀ (j : Nat) (oj : Oper), l.dropLast.toArray[j]? = some oj → ∀ e ∈ oj.after, Region.binds .any e = true → e.on < j := by
    intro j oj hj e he hb
    have hj' : l.dropLast[j]? = some oj := by simpa using hj
    have hjl : j < l.dropLast.length := (List.getElem?_eq_some_iff.1 hj').1
    have h1 := List.all_eq_true.1 hL2 j (List.mem_range.2 hjl)
    rw [hj'] at h1
    have h2 := Array.all_eq_true_iff_forall_mem.1 h1 e he
    rw [hb] at h2
    simpa using h2
  refine wp_region_any hm ?_
  rw [harr]
  have hsz : (l.dropLast.toArray.push o).size = l.dropLast.toArray.size + 1 := Array.size_push _
  have hrep : Array.replicate (l.dropLast.toArray.size + 1) false = (Array.replicate l.dropLast.toArray.size false).push false := by
    rw [← Array.replicate_succ]
  rw [hsz, hrep]
  refine quiet_last (C := C) (Q := fun a' => ∀ w', C w' → wpOp P l.toArray Q (l.length - 1) (fun a'' w'' => Q .normal a'' w'') a' w') hg hpre ?_ ?_ ?_ _ _ _ _ (by simp) hC hq
  · intro j hj
    have h1 := List.all_eq_true.1 hL3 j (List.mem_range.2 (by rw [hlen]; exact hj))
    obtain ⟨k, hk, h2⟩ := Array.any_eq_true.1 h1
    simp only [Bool.and_eq_true, beq_iff_eq] at h2
    exact ⟨o.after[k], Array.getElem_mem hk, h2.1, h2.2⟩
  · intro e he hb
    have h2 := Array.all_eq_true_iff_forall_mem.1 hL4 e he
    rw [hb] at h2
    rw [← hlen]
    simpa using h2
  · intro a' w' hC' hk
    have := hk w' hC'
    rw [harr, hlen] at this
    exact this
end Go.Proofs.Ytphhgfgmlfdkiaa
