/- Texts joined: Aid, View, Ints, Bits. No statement is proved here. -/
import Derived.WalkKit
import Derived.WalkSpells
import Derived.WalkLawsBesides
import Derived.Laws.BytesArg
import Derived.Outline
import Derived.Deep.RegionLaw
import Derived.OpenShut
import Derived.Test.YtcikmgdfelejpaaRows
import Derived.Deep.QuietTactic
import Derived.BigQuiet

/- Plain helpers of this seat's proofs: slices of numbers that a call makes for itself, grown by one number at a time, and turned into texts. No statement is proved here. -/
namespace Go.Proofs.Ytcikmgdfelejpaa
open Go.RowKit
set_option linter.unusedVariables false

theorem ret_int {k : IntKind} {a b : Int} (h : a = b) : Ending.returned (.int k a) = .returned (.int k b) := by rw [h]
theorem ret_str {a b : ByteArray} (h : a = b) : Ending.returned (.string a) = .returned (.string b) := by rw [h]
theorem ret_bool {a b : Bool} (h : a = b) : Ending.returned (.bool a) = .returned (.bool b) := by rw [h]
theorem below_drewN (w : World) (n : Nat) : Below w.heap.size w (w.drewN n) := ⟨rfl, rfl, rfl, Nat.le_refl _, fun _ _ => rfl⟩
theorem belowN {B : Nat} {a w : World} (h : Below B a w) (n : Nat) : Below B a (w.drewN n) := ⟨h.os, h.tape, h.output, h.size, h.block⟩
theorem hid {p : Prop} (h : p) : Hid p := h
theorem w64 {x : Int} (h0 : -9223372036854775808 ≤ x) (h1 : x ≤ 9223372036854775807) : wrap64 x = x := by
  unfold wrap64; omega
theorem byte_lt (a : UInt8) : (a.toNat : Int) < 256 := by have := a.toNat_lt; omega

/-- The slice v is the call's own (its row lies from block 'base' on) and holds the numbers xs. -/
def Own (w : World) (base : Nat) (e : TypeId) (k : IntKind) (v : Value) (xs : List Int) : Prop :=
  base ≤ w.heap.size ∧ w.ownsRow base e 1 v xs.length (xs.map (Value.int k))

theorem Own.shape {w : World} {base : Nat} {e : TypeId} {k : IntKind} {v : Value} {xs : List Int} (h : Own w base e k v xs) : ∃ ao cap, v = .slice ao xs.length cap := by
  rcases h.2.2 with ⟨rfl, h0⟩ | ⟨g, cap, cur, rfl, _⟩
  · exact ⟨none, 0, by rw [h0]⟩
  · exact ⟨_, _, rfl⟩

theorem Own.drew {w : World} {base : Nat} {e : TypeId} {k : IntKind} {v : Value} {xs : List Int} (h : Own w base e k v xs) (n : Nat) : Own (w.drewN n) base e k v xs := h

theorem Own.drew1 {w : World} {base : Nat} {e : TypeId} {k : IntKind} {v : Value} {xs : List Int} (h : Own w base e k v xs) : Own w.drew base e k v xs := h

theorem Own.alloc {w : World} {base : Nat} {e : TypeId} {k : IntKind} {v : Value} {xs : List Int} (h : Own w base e k v xs) (o : Obj) : Own (w.alloc o) base e k v xs :=
  ⟨Nat.le_trans h.1 (by simp), h.2.alloc o⟩

/-- An own slice stays what it is where all blocks that were there stay what they are. -/
theorem Own.below {w w' : World} {base : Nat} {e : TypeId} {k : IntKind} {v : Value} {xs : List Int} (h : Own w base e k v xs) (hb : Below w.heap.size w w') : Own w' base e k v xs := by
  refine ⟨Nat.le_trans h.1 hb.size, h.2.1, ?_⟩
  rcases h.2.2 with h0 | ⟨g, cap, cur, hv, hg, hh, r⟩
  · exact .inl h0
  · exact .inr ⟨g, cap, cur, hv, hg, (hb.block g (Array.getElem?_eq_some_iff.1 hh).1).trans hh, r⟩

/-- A store into a block below the base. -/
theorem Own.setCell_below {w : World} {base : Nat} {e : TypeId} {k : IntKind} {v : Value} {xs : List Int} (h : Own w base e k v xs) {a : Addr} (ha : a.block < base) (u : Value) : Own (w.setCell a u) base e k v xs :=
  ⟨by have := h.1; simpa [World.setCell] using this, ownsRow_setCell_below h.2 ha u⟩

theorem Own.nil (w : World) (e : TypeId) (k : IntKind) (base : Nat) (hb : base ≤ w.heap.size) : Own w base e k (.slice none 0 0) [] :=
  ⟨hb, World.ownsRow_nil _ _ _ _⟩

/-- 'out := []T{}'. -/
theorem Own.empty (w : World) (e : TypeId) (k : IntKind) (base : Nat) (hb : base ≤ w.heap.size) : Own (w.alloc (.cells #[] e)) base e k (.slice (some ⟨w.heap.size, 0, none⟩) 0 0) [] :=
  ⟨Nat.le_trans hb (by simp), World.ownsRow_made w #[] 0 hb (by simp [maxLen]) rfl⟩

/-- The numbers, cell by cell. -/
theorem Own.cell {w : World} {base : Nat} {e : TypeId} {k : IntKind} {v : Value} {xs : List Int} (h : Own w base e k v xs) {a : Addr} {n c : Nat} (hv : v = .slice (some a) n c) (j : Nat) (hj : j < xs.length) :
    w.cell? (a.add j) = some (.int k (xs.getD j 0)) := by
  subst hv
  obtain ⟨_, h⟩ := h
  rcases h.2 with ⟨hn, _⟩ | ⟨g, cap, cur, hv, _⟩
  · cases hn
  · have ha : a = ⟨g, 0, none⟩ := by cases hv; rfl
    subst ha
    refine h.cells (g := g) (by simp [Value.ownBlock]) j _ ?_
    simp [hj]

theorem Own.len {w : World} {base : Nat} {e : TypeId} {k : IntKind} {ao : Option Addr} {n c : Nat} {xs : List Int} (h : Own w base e k (.slice ao n c) xs) : n = xs.length := by
  obtain ⟨ao', c', hv⟩ := h.shape
  cases hv; rfl

/-- 'out = append(out, y)', y laid in a new block of its own first. -/
theorem wpList_push {P : Program} {ops : Array Oper} {rest : List Oper} {o : Oper} {a : Act} {Q : Exit → Act → World → Prop} (w : World) (hgd : o.guard = none) (s x : Operand) (t : TypeId)
    (ho : o.op = .call { callee := .builtin .append, args := #[s, x], argTypes := #[t, t] })
    (base : Nat) (e : TypeId) (k : IntKind) (z : Int) (bytes : Nat) (ht : P.underlying t = some (.slice e)) (hinfo : (P.info? e).map (fun i => (i.zero, i.size, i.bytes)) = some (some (.int k z), 1, bytes))
    (v : Value) (xs : List Int) (hs : a.eval s = v) (hown : Own w base e k v xs) (y : Int) (hx : a.eval x = .slice (some ⟨w.heap.size, 0, none⟩) 1 1)
    (hlen : xs.length < 1000000000000) (hbytes : bytes ≤ 8)
    (h : ∀ v' w', Own w' base e k v' (xs ++ [y]) → Below base w w' → wpList P ops Q rest (a.put o.dst v') w') : wpList P ops Q (o :: rest) a (w.alloc (.cells #[.int k y] e)) := by
  obtain ⟨i, hi, hz0, hz1, hz2⟩ := info_parts hinfo
  have hb := hown.1
  have hlt := hown.2.lt
  have hmul : (xs.length + 1) * bytes ≤ (xs.length + 1) * 8 := Nat.mul_le_mul_left _ hbytes
  refine wpList_append_own _ hgd s x t ho base e i (.int k z) 1 bytes ht hi hz0 hz1 hz2 rfl (by decide) v xs.length _ hs (hown.2.alloc _) ⟨w.heap.size, 0, none⟩ 1 1 [.int k y] hx rfl ?_ ?_ (by unfold maxLen; omega) (by omega) (Nat.le_trans hb (by simp)) ?_
  · intro j u hj
    match j, hj with
    | 0, hj => simp at hj; subst hj; simp [Addr.add]
  · intro u hu; simp at hu; subst hu; rfl
  · intro v' w' hown' hgrow _
    refine h v' w' ⟨Nat.le_trans hb (Nat.le_trans (by simp) hgrow.size), ?_⟩ ?_
    · simpa using hown'
    · exact ((Below.refl base w).alloc hb _).grown hgrow (Nat.le_trans hb (by simp)) (fun g hg => (hlt g hg).1)

/-- 'append(out, y)' as one step of a statement that leaves its order open. -/
theorem step_push1 {P : Program} {ops : Array Oper} {o : Oper} {a : Act} {K : Act → World → Prop} {Q : Exit → Act → World → Prop} {E : Prop} (w : World) (hgd : o.guard = none) (s x : Operand) (t : TypeId)
    (ho : o.op = .call { callee := .builtin .append, args := #[s, x], argTypes := #[t, t] })
    (base : Nat) (e : TypeId) (k : IntKind) (z : Int) (bytes : Nat) (ht : P.underlying t = some (.slice e)) (hinfo : (P.info? e).map (fun i => (i.zero, i.size, i.bytes)) = some (some (.int k z), 1, bytes))
    (v : Value) (xs : List Int) (hs : a.eval s = v) (hown : Own w base e k v xs) (y : Int) (hx : a.eval x = .slice (some ⟨w.heap.size, 0, none⟩) 1 1)
    (hlen : xs.length < 1000000000000) (hbytes : bytes ≤ 8)
    (h : ∀ v' w', Own w' base e k v' (xs ++ [y]) → Below base w w' → K (a.put o.dst v') w') :
    if Region.wanted o (yielded ops a.tmps) = true then Oper.wp P o a (w.alloc (.cells #[.int k y] e)) K Q else E := by
  have hw : Region.wanted o (yielded ops a.tmps) = true := by simp [Region.wanted, hgd]
  rw [if_pos hw]
  obtain ⟨i, hi, hz0, hz1, hz2⟩ := info_parts hinfo
  have hb := hown.1
  have hlt := hown.2.lt
  have hmul : (xs.length + 1) * bytes ≤ (xs.length + 1) * 8 := Nat.mul_le_mul_left _ hbytes
  refine wp_append_own _ s x t ho base e i (.int k z) 1 bytes ht hi hz0 hz1 hz2 rfl (by decide) v xs.length _ hs (hown.2.alloc _) ⟨w.heap.size, 0, none⟩ 1 1 [.int k y] hx rfl ?_ ?_ (by unfold maxLen; omega) (by omega) (Nat.le_trans hb (by simp)) ?_
  · intro j u hj
    match j, hj with
    | 0, hj => simp at hj; subst hj; simp [Addr.add]
  · intro u hu; simp at hu; subst hu; rfl
  · intro v' w' hown' hgrow _
    refine h v' w' ⟨Nat.le_trans hb (Nat.le_trans (by simp) hgrow.size), ?_⟩ ?_
    · simpa using hown'
    · exact ((Below.refl base w).alloc hb _).grown hgrow (Nat.le_trans hb (by simp)) (fun g hg => (hlt g hg).1)

/-- The same, the new block's number told by whatever term. -/
theorem step_push1g {P : Program} {ops : Array Oper} {o : Oper} {a : Act} {K : Act → World → Prop} {Q : Exit → Act → World → Prop} {E : Prop} (w : World) (g : Nat) (hgs : w.heap.size = g) (hgd : o.guard = none) (s x : Operand) (t : TypeId)
    (ho : o.op = .call { callee := .builtin .append, args := #[s, x], argTypes := #[t, t] })
    (base : Nat) (e : TypeId) (k : IntKind) (z : Int) (bytes : Nat) (ht : P.underlying t = some (.slice e)) (hinfo : (P.info? e).map (fun i => (i.zero, i.size, i.bytes)) = some (some (.int k z), 1, bytes))
    (v : Value) (xs : List Int) (hs : a.eval s = v) (hown : Own w base e k v xs) (y : Int) (hx : a.eval x = .slice (some ⟨g, 0, none⟩) 1 1)
    (hlen : xs.length < 1000000000000) (hbytes : bytes ≤ 8)
    (h : ∀ v' w', Own w' base e k v' (xs ++ [y]) → Below base w w' → K (a.put o.dst v') w') :
    if Region.wanted o (yielded ops a.tmps) = true then Oper.wp P o a (w.alloc (.cells #[.int k y] e)) K Q else E := by
  subst hgs
  exact step_push1 w hgd s x t ho base e k z bytes ht hinfo v xs hs hown y hx hlen hbytes h

/-- 'append(out, y1, y2)' as one step of a statement that leaves its order open. -/
theorem step_push2 {P : Program} {ops : Array Oper} {o : Oper} {a : Act} {K : Act → World → Prop} {Q : Exit → Act → World → Prop} {E : Prop} (w : World) (hgd : o.guard = none) (s x : Operand) (t : TypeId)
    (ho : o.op = .call { callee := .builtin .append, args := #[s, x], argTypes := #[t, t] })
    (base : Nat) (e : TypeId) (k : IntKind) (z : Int) (bytes : Nat) (ht : P.underlying t = some (.slice e)) (hinfo : (P.info? e).map (fun i => (i.zero, i.size, i.bytes)) = some (some (.int k z), 1, bytes))
    (v : Value) (xs : List Int) (hs : a.eval s = v) (hown : Own w base e k v xs) (y1 y2 : Int) (hx : a.eval x = .slice (some ⟨w.heap.size, 0, none⟩) 2 2)
    (hlen : xs.length < 1000000000000) (hbytes : bytes ≤ 8)
    (h : ∀ v' w', Own w' base e k v' (xs ++ [y1, y2]) → Below base w w' → K (a.put o.dst v') w') :
    if Region.wanted o (yielded ops a.tmps) = true then Oper.wp P o a (w.alloc (.cells #[.int k y1, .int k y2] e)) K Q else E := by
  have hw : Region.wanted o (yielded ops a.tmps) = true := by simp [Region.wanted, hgd]
  rw [if_pos hw]
  obtain ⟨i, hi, hz0, hz1, hz2⟩ := info_parts hinfo
  have hb := hown.1
  have hlt := hown.2.lt
  have hmul : (xs.length + 2) * bytes ≤ (xs.length + 2) * 8 := Nat.mul_le_mul_left _ hbytes
  refine wp_append_own _ s x t ho base e i (.int k z) 1 bytes ht hi hz0 hz1 hz2 rfl (by decide) v xs.length _ hs (hown.2.alloc _) ⟨w.heap.size, 0, none⟩ 2 2 [.int k y1, .int k y2] hx rfl ?_ ?_ (by unfold maxLen; omega) (by omega) (Nat.le_trans hb (by simp)) ?_
  · intro j u hj
    match j, hj with
    | 0, hj => simp at hj; subst hj; simp [Addr.add]
    | 1, hj => simp at hj; subst hj; simp [Addr.add]
  · intro u hu; simp at hu; rcases hu with rfl | rfl <;> rfl
  · intro v' w' hown' hgrow _
    refine h v' w' ⟨Nat.le_trans hb (Nat.le_trans (by simp) hgrow.size), ?_⟩ ?_
    · simpa using hown'
    · exact ((Below.refl base w).alloc hb _).grown hgrow (Nat.le_trans hb (by simp)) (fun g hg => (hlt g hg).1)

/-- 'out := make([]T, 0, n)'. -/
theorem wpList_mk0 {P : Program} {ops : Array Oper} {rest : List Oper} {o : Oper} {a : Act} {Q : Exit → Act → World → Prop} (w : World) (hgd : o.guard = none) (l c : Operand) (t : TypeId)
    (ho : o.op = Op.makeSlice t l c) (base : Nat) (e : TypeId) (k : IntKind) (z : Int) (bytes : Nat) (ht : P.underlying t = some (.slice e)) (hinfo : (P.info? e).map (fun i => (i.zero, i.size, i.bytes)) = some (some (.int k z), 1, bytes))
    (kl kc : IntKind) (n : Nat) (hl : a.eval l = .int kl 0) (hc : a.eval c = .int kc n) (hn : n ≤ 1000000000000) (hbytes : bytes ≤ 8) (hb : base ≤ w.heap.size)
    (h : ∀ w', Own w' base e k (.slice (some ⟨w.heap.size, 0, none⟩) 0 n) [] → Below base w w' → wpList P ops Q rest (a.put o.dst (.slice (some ⟨w.heap.size, 0, none⟩) 0 n)) w') : wpList P ops Q (o :: rest) a w := by
  obtain ⟨i, hi, hz0, hz1, hz2⟩ := info_parts hinfo
  have hmul : i.bytes * n ≤ 8 * n := Nat.mul_le_mul_right _ (by rw [hz2]; exact hbytes)
  refine wpList_make_own w hgd l c t ho base e i (.int k z) 1 ht hi hz0 hz1 kl kc n n hl hc rfl (by omega) (by unfold maxLen; omega) hb ?_
  intro w' hown hgrow
  exact h w' ⟨Nat.le_trans hb hgrow.size, hown⟩ ((Below.refl base w).grown hgrow hb (fun _ hg => by cases hg))

/-- 'out := make([]T, n)': n zeros. -/
theorem wpList_mkn {P : Program} {ops : Array Oper} {rest : List Oper} {o : Oper} {a : Act} {Q : Exit → Act → World → Prop} (w : World) (hgd : o.guard = none) (l c : Operand) (t : TypeId)
    (ho : o.op = Op.makeSlice t l c) (base : Nat) (e : TypeId) (k : IntKind) (bytes : Nat) (ht : P.underlying t = some (.slice e)) (hinfo : (P.info? e).map (fun i => (i.zero, i.size, i.bytes)) = some (some (.int k 0), 1, bytes))
    (kl kc : IntKind) (n : Nat) (hl : a.eval l = .int kl n) (hc : a.eval c = .int kc n) (hn : n ≤ 1000000000000) (hbytes : bytes ≤ 8) (hb : base ≤ w.heap.size)
    (h : ∀ w', Own w' base e k (.slice (some ⟨w.heap.size, 0, none⟩) n n) (List.replicate n 0) → Below base w w' → wpList P ops Q rest (a.put o.dst (.slice (some ⟨w.heap.size, 0, none⟩) n n)) w') : wpList P ops Q (o :: rest) a w := by
  obtain ⟨i, hi, hz0, hz1, hz2⟩ := info_parts hinfo
  have hmul : i.bytes * n ≤ 8 * n := Nat.mul_le_mul_right _ (by rw [hz2]; exact hbytes)
  refine wpList_make_full w hgd l c t ho base e i (.int k 0) 1 ht hi hz0 hz1 kl kc n n n hl hc rfl rfl (by omega) (by unfold maxLen; omega) hb ?_
  intro w' hown hgrow
  refine h w' ⟨Nat.le_trans hb hgrow.size, ?_⟩ ((Below.refl base w).grown hgrow hb (fun _ hg => by cases hg))
  have e1 : (madeCells (Value.int k 0).cells (n * 1)).toList = (List.replicate n (0 : Int)).map (Value.int k) := by
    simp only [madeCells, Value.cells, List.map_replicate]
    rw [List.eq_replicate_iff]
    refine ⟨by simp, ?_⟩
    intro b hb
    simp [Nat.mod_one] at hb
    exact hb.2.symm
  rw [e1] at hown
  simpa using hown

/-- 'string(out)'. -/
theorem Own.conv {P : Program} {w : World} {base src e dst : TypeId} {v : Value} {xs : List Int} (hs : P.underlying src = some (.slice e)) (he : P.underlying e = some (.int .u8)) (hd : P.underlying dst = some .string)
    (h : Own w base e .u8 v xs) : Sem.run P (convert src dst v) w = .ok (.string (strOfNums xs)) w := by
  rcases h.2.2 with ⟨rfl, h0⟩ | ⟨g, cap, cur, rfl, _⟩
  · have : xs = [] := List.length_eq_zero_iff.1 h0
    subst this
    exact run_convert_bytes_nil w src e hs he 0 0 dst hd
  · refine run_convert_bytes_arg w src e hs he g 0 xs.length cap xs rfl ?_ dst hd
    intro i hi
    have := h.cell rfl i hi
    rw [Addr.add_lit] at this
    exact this
end Go.Proofs.Ytcikmgdfelejpaa

/- Plain helpers of this seat's proofs: slices of ints that are read, wherever they lie. No statement is proved here. -/
namespace Go.Proofs.Ytcikmgdfelejpaa
open Go.RowKit
set_option linter.unusedVariables false

theorem val_int {k : IntKind} {a b : Int} (h : a = b) : Value.int k a = .int k b := by rw [h]

/-- What a walk is told of a slice of integers that came in: it is nil; or it leads to a row of 'cap' cells, the numbers 'zs'. -/
def IsRow (k : IntKind) (w : World) (a : Option Addr) (len cap : Nat) (zs : List Int) : Prop :=
  (a = none ∧ len = 0 ∧ cap = 0 ∧ zs = []) ∨
  ∃ x, a = some x ∧ len ≤ cap ∧ cap ≤ maxLen ∧ zs.length = cap ∧ (∀ i, i < zs.length → w.cell? (x.add i) = some (.int k (zs.getD i 0))) ∧ ∀ n ∈ zs, (Lit.int k n).wf = true

/-- The slice at 'ao', of n numbers, reads as xs. -/
def View (k : IntKind) (w : World) (ao : Option Addr) (n : Nat) (xs : List Int) : Prop :=
  xs.length = n ∧ ∀ i, i < n → ∃ b off, ao = some ⟨b, off, none⟩ ∧ w.cell? ⟨b, off + i, none⟩ = some (.int k (xs.getD i 0))

theorem IsRow.view {k : IntKind} {w : World} {a : Option Addr} {len cap : Nat} {zs : List Int} (h : IsRow k w a len cap zs) : View k w a len (zs.take len) := by
  rcases h with ⟨rfl, rfl, rfl, rfl⟩ | ⟨x, rfl, hl, hm, hz, hcell, hwz⟩
  · exact ⟨rfl, fun i hi => by omega⟩
  · refine ⟨by simp; omega, fun i hi => ?_⟩
    obtain ⟨b, off, spot⟩ := x
    have hc := hcell 0 (by omega)
    have hspot : spot = none := by simpa [Addr.add] using World.cell?_spot hc
    subst hspot
    refine ⟨b, off, rfl, ?_⟩
    have := hcell i (by omega)
    rw [Addr.add_lit] at this
    rw [this]
    simp [List.getD, hi]

theorem IsRow.wf {k : IntKind} {w : World} {a : Option Addr} {len cap : Nat} {zs : List Int} (h : IsRow k w a len cap zs) : ∀ n ∈ zs.take len, (Lit.int k n).wf = true := by
  rcases h with ⟨rfl, rfl, rfl, rfl⟩ | ⟨x, rfl, hl, hm, hz, hcell, hwz⟩
  · intro n hn; simp at hn
  · intro n hn; exact hwz n (List.mem_of_mem_take hn)

theorem IsRow.len {k : IntKind} {w : World} {a : Option Addr} {len cap : Nat} {zs : List Int} (h : IsRow k w a len cap zs) : len ≤ 9223372036854775807 ∧ (a = none → len = 0) := by
  rcases h with ⟨rfl, rfl, rfl, rfl⟩ | ⟨x, rfl, hl, hm, hz, hcell, hwz⟩
  · exact ⟨by decide, fun _ => rfl⟩
  · unfold maxLen at hm
    exact ⟨by omega, fun h => by cases h⟩

theorem View.below {k : IntKind} {w w' : World} {B : Nat} {ao : Option Addr} {n : Nat} {xs : List Int} (h : View k w ao n xs) (hB : w.heap.size ≤ B) (hb : Below B w w') : View k w' ao n xs := by
  refine ⟨h.1, fun i hi => ?_⟩
  obtain ⟨b, off, rfl, hc⟩ := h.2 i hi
  exact ⟨b, off, rfl, (hb.cell (p := ⟨b, off + i, none⟩) (Nat.lt_of_lt_of_le (World.block_lt_of_cell? w _ hc) hB)).trans hc⟩

theorem Own.view {k : IntKind} {w : World} {base : Nat} {e : TypeId} {v : Value} {xs : List Int} (h : Own w base e k v xs) : ∃ ao cap, v = .slice ao xs.length cap ∧ View k w ao xs.length xs := by
  obtain ⟨ao, cap, rfl⟩ := h.shape
  refine ⟨ao, cap, rfl, rfl, fun i hi => ?_⟩
  rcases h.2.2 with ⟨hn, h0⟩ | ⟨g, cap', cur, hv, _⟩
  · omega
  · have ha : ao = some ⟨g, 0, none⟩ := by cases hv; rfl
    subst ha
    refine ⟨g, 0, rfl, ?_⟩
    have := h.cell rfl i hi
    rw [Addr.add_lit] at this
    exact this

/-- A store into an own slice. -/
theorem Own.store {k : IntKind} {w : World} {base : Nat} {e : TypeId} {g n c : Nat} {ys : List Int} (h : Own w base e k (.slice (some ⟨g, 0, none⟩) n c) ys) (j : Nat) (x : Int) :
    Own (w.setCell ⟨g, j, none⟩ (.int k x)) base e k (.slice (some ⟨g, 0, none⟩) n c) (ys.set j x) := by
  have hl := h.len
  subst hl
  have := (h.2.stored j (.int k x)).1
  refine ⟨by have := h.1; simpa [World.setCell] using this, ?_⟩
  simpa using this

theorem Own.free {k : IntKind} {w : World} {base : Nat} {e : TypeId} {g n c : Nat} {ys : List Int} (h : Own w base e k (.slice (some ⟨g, 0, none⟩) n c) ys) (j : Nat) : w.frozen? ⟨g, j, none⟩ = false := by
  have hl := h.len
  subst hl
  exact h.2.frozenAt j

theorem Own.at {k : IntKind} {w : World} {base : Nat} {e : TypeId} {g n c : Nat} {ys : List Int} (h : Own w base e k (.slice (some ⟨g, 0, none⟩) n c) ys) (j : Nat) (hj : j < ys.length) : w.cell? ⟨g, j, none⟩ = some (.int k (ys.getD j 0)) := by
  have := h.cell rfl j hj
  rw [Addr.add_lit, Nat.zero_add] at this
  exact this

theorem Own.ge {k : IntKind} {w : World} {base : Nat} {e : TypeId} {a : Addr} {n c : Nat} {ys : List Int} (h : Own w base e k (.slice (some a) n c) ys) : base ≤ a.block ∧ a.block < w.heap.size :=
  h.2.lt a.block rfl

theorem list_eq_of_getD {xs ys : List Int} (hl : xs.length = ys.length) (h : ∀ i, i < xs.length → xs.getD i 0 = ys.getD i 0) : xs = ys := by
  apply List.ext_getElem hl
  intro i h1 h2
  have := h i h1
  simpa [List.getD, h1, h2] using this
end Go.Proofs.Ytcikmgdfelejpaa

/- Contracts of the small functions over slices of ints: toIntS, eqIntS, the two tests for bits. -/
namespace Go.Proofs.Ytcikmgdfelejpaa
open Go.RowKit
set_option linter.unusedVariables false

theorem Try.info3 : (Try.prog.info? 3).map (fun i => (i.zero, i.size, i.bytes)) = some (some (.int .i64 0), 1, 8) := by kernel_rfl
theorem Try.info5 : (Try.prog.info? 5).map (fun i => (i.zero, i.size, i.bytes)) = some (some (.int .u8 0), 1, 1) := by kernel_rfl

theorem spec_in (x a b : Int) (w : World) :
    Calls Try.prog 51 #[.int .i64 x, .int .i64 a, .int .i64 b] w fun e w' => e = .returned (.bool (decide (a ≤ x ∧ x ≤ b))) ∧ w = w' := by
  by_cases h1 : a ≤ x <;> by_cases h2 : x ≤ b
  all_goals
    go_enter Try.func51, Try.ntmps51
    go_wp2
    go_ret
    exact ⟨by simp [h1, h2], rfl⟩

set_option maxHeartbeats 800000 in
/-- A copy in new memory. -/
theorem toInts (ao : Option Addr) (n cap : Nat) (xs : List Int) (w : World) (hn : n ≤ 1048576) (hv : View .i64 w ao n xs) :
    Calls Try.prog 23 #[.slice ao n cap] w fun e w' => ∃ v, e = .returned v ∧ Own w' w.heap.size 3 .i64 v xs ∧ Below w.heap.size w w' := by
  have HV := show Hid _ from hv
  clear hv
  go_enter Try.func23, Try.ntmps23
  go_wp2_with (at_make; refine wpList_mkn w rfl _ _ 22 rfl w.heap.size 3 .i64 8 Try.underlying22 Try.info3 _ _ n rfl rfl (by omega) (by decide) (Nat.le_refl _) ?_)
  intro w0 hown0 hb0
  go_wp2
  go_loopw [4] (fun i wr => ∃ (k : Nat) (ys : List Int), k ≤ n ∧ i = .int .i64 k ∧ Own wr w.heap.size 3 .i64 (.slice (some ⟨w.heap.size, 0, none⟩) n n) ys ∧ Hid (ys.length = n ∧ ∀ j, j < k → ys.getD j 0 = xs.getD j 0) ∧ Below w.heap.size w wr) (fun i _ => n - (intOf i).toNat)
  case atStart => exact ⟨0, _, by omega, rfl, hown0, ⟨by simp, fun j hj => by omega⟩, hb0⟩
  case round =>
    obtain ⟨k, ys, hk, rfl, hown, hys, hb⟩ := hrel
    clear hown0 hb0
    by_cases hlt : k < n
    · obtain ⟨b, off, rfl, hc⟩ := HV.out.2 k hlt
      have hcr : wr.cell? ⟨b, off + k, none⟩ = some (.int .i64 (xs.getD k 0)) := (hb.cell (p := ⟨b, off + k, none⟩) (World.block_lt_of_cell? w _ hc)).trans hc
      have hold := hown.at k (by have := hys.out.1; omega)
      have hfree := hown.free k
      have hnew := hown.store k (xs.getD k 0)
      generalize hX : xs.getD k 0 = X at *
      have HX := show Hid _ from hX
      generalize ys.getD k 0 = Y at *
      clear hX hc
      go_wp2
      go_roundw
      case rel =>
        refine ⟨k + 1, _, by omega, by go_num, hnew, ⟨by simp; exact hys.out.1, fun j hj => ?_⟩, hb.setCell (p := ⟨w.heap.size, k, none⟩) (Nat.le_refl _) _⟩
        by_cases e : j = k
        · subst e
          rw [HX.out]
          simp [List.getD, hys.out.1, hlt]
        · rw [← hys.out.2 j (by omega)]
          simp [List.getD, show k ≠ j from fun h => e h.symm]
      case measure => simp [intOf]; omega
    · obtain rfl : k = n := by omega
      have hxy : ys = xs := list_eq_of_getD (by rw [hys.out.1, HV.out.1]) (fun i hi => hys.out.2 i (by rw [← hys.out.1]; exact hi))
      subst hxy
      go_wp2
      go_ret
      exact ⟨_, rfl, hown, hb⟩

set_option maxHeartbeats 800000 in
/-- Two slices that read as the same numbers. -/
theorem eqInts_same (ao bo : Option Addr) (n cap cap' : Nat) (xs : List Int) (w : World) (hn : n ≤ 4194304) (ha : View .i64 w ao n xs) (hb : View .i64 w bo n xs) :
    Calls Try.prog 15 #[.slice ao n cap, .slice bo n cap'] w fun e w' => e = .returned (.bool true) ∧ Below w.heap.size w w' := by
  have HA := show Hid _ from ha
  have HB := show Hid _ from hb
  clear ha hb
  go_enter Try.func15, Try.ntmps15
  go_wp2
  go_loopw [5] (fun i wr => ∃ k : Nat, k ≤ n ∧ i = .int .i64 k ∧ ∃ q, wr = w.drewN q) (fun i _ => n - (intOf i).toNat)
  case atStart => exact ⟨0, by omega, rfl, 0, rfl⟩
  case round =>
    obtain ⟨k, hk, rfl, q, rfl⟩ := hrel
    by_cases hlt : k < n
    · obtain ⟨b, off, rfl, hc⟩ := HA.out.2 k hlt
      obtain ⟨b', off', rfl, hc'⟩ := HB.out.2 k hlt
      have hlt' : (k : Int) < (n : Int) := by omega
      generalize xs.getD k 0 = X at *
      go_wp2
      go_quiet (fail)
      go_wp2
      go_roundw
      case rel => exact ⟨k + 1, by omega, by go_num, _, rfl⟩
      case measure => simp [intOf]; omega
    · obtain rfl : k = n := by omega
      go_wp2
      go_ret
      exact ⟨rfl, belowN (Below.refl _ _) _⟩
end Go.Proofs.Ytcikmgdfelejpaa

/- Contracts of the two tests for bits, of the specification's BitsNum, and of the writer's put where there is room. -/
namespace Go.Proofs.Ytcikmgdfelejpaa
open Go.RowKit
set_option linter.unusedVariables false

def Bit (x : Int) : Prop := x = 0 ∨ x = 1

theorem isBit_yes (x : Int) (h : Bit x) (w : World) : Calls Try.prog 81 #[.int .i64 x] w fun e w' => e = .returned (.bool true) ∧ w = w' := by
  rcases h with rfl | rfl
  all_goals
    go_enter Try.func81, Try.ntmps81
    go_wp2
    go_ret
    exact ⟨rfl, rfl⟩
theorem isBit_no (x : Int) (h : ¬ Bit x) (w : World) : Calls Try.prog 81 #[.int .i64 x] w fun e w' => e = .returned (.bool false) ∧ w = w' := by
  have h0 : (x == 0) = false := by simp only [beq_eq_false_iff_ne]; intro e; exact h (.inl e)
  have h1 : (x == 1) = false := by simp only [beq_eq_false_iff_ne]; intro e; exact h (.inr e)
  clear h
  go_enter Try.func81, Try.ntmps81
  go_wp2
  go_ret
  exact ⟨rfl, rfl⟩

set_option maxHeartbeats 800000 in
theorem areBits_yes (ao : Option Addr) (n cap : Nat) (xs : List Int) (w : World) (hn : n ≤ 1048576) (hv : View .i64 w ao n xs) (hall : ∀ j, j < n → Bit (xs.getD j 0)) :
    Calls Try.prog 54 #[.slice ao n cap] w fun e w' => e = .returned (.bool true) ∧ w = w' := by
  have HV := hid (hv)
  have HA := hid (hall)
  clear hv hall
  go_enter Try.func54, Try.ntmps54
  go_wp2
  go_loop [7] (fun i => ∃ k : Nat, k ≤ n ∧ i = .int .i64 k) (fun i => n - (intOf i).toNat)
  case atStart => exact ⟨0, by omega, rfl⟩
  case round =>
    obtain ⟨k, hk, rfl⟩ := hrel
    by_cases hlt : k < n
    · obtain ⟨b, off, rfl, hc⟩ := HV.out.2 k hlt
      have hbit := HA.out k hlt
      generalize xs.getD k 0 = X at *
      have HI := hid (fun q : World => isBit_yes X hbit q)
      clear hbit
      go_wp2_with (go_at_call 81; refine (HI.out _).mono ?_; rintro e w' ⟨rfl, rfl⟩)
      go_round
      case rel => exact ⟨k + 1, by omega, by go_num⟩
      case measure => simp [intOf]; omega
    · obtain rfl : k = n := by omega
      go_wp2
      go_ret
      exact ⟨rfl, rfl⟩

set_option maxHeartbeats 800000 in
theorem areBits_no (ao : Option Addr) (n cap : Nat) (xs : List Int) (w : World) (hn : n ≤ 1048576) (hv : View .i64 w ao n xs) (hall : ¬ ∀ j, j < n → Bit (xs.getD j 0)) :
    Calls Try.prog 54 #[.slice ao n cap] w fun e w' => e = .returned (.bool false) ∧ w = w' := by
  have HV := hid (hv)
  have HA := hid (hall)
  clear hv hall
  go_enter Try.func54, Try.ntmps54
  go_wp2
  go_loop [7] (fun i => ∃ k : Nat, k ≤ n ∧ i = .int .i64 k ∧ Hid (∀ j, j < k → Bit (xs.getD j 0))) (fun i => n - (intOf i).toNat)
  case atStart => exact ⟨0, by omega, rfl, fun j hj => by omega⟩
  case round =>
    obtain ⟨k, hk, rfl, hgood⟩ := hrel
    by_cases hlt : k < n
    · obtain ⟨b, off, rfl, hc⟩ := HV.out.2 k hlt
      by_cases hbit : Bit (xs.getD k 0)
      · have hg2 : Hid (∀ j, j < k + 1 → Bit (xs.getD j 0)) := fun j hj => by
          by_cases e : j = k
          · subst e; exact hbit
          · exact hgood.out j (by omega)
        have HI := hid (fun q : World => isBit_yes _ hbit q)
        generalize xs.getD k 0 = X at *
        clear hbit
        go_wp2_with (go_at_call 81; refine (HI.out _).mono ?_; rintro e w' ⟨rfl, rfl⟩)
        go_round
        case rel => exact ⟨k + 1, by omega, by go_num, hg2⟩
        case measure => simp [intOf]; omega
      · have HI := hid (fun q : World => isBit_no _ hbit q)
        generalize xs.getD k 0 = X at *
        clear hbit
        go_wp2_with (go_at_call 81; refine (HI.out _).mono ?_; rintro e w' ⟨rfl, rfl⟩)
        go_ret
        exact ⟨rfl, rfl⟩
    · exfalso
      exact HA.out (fun j hj => hgood.out j (by omega))

set_option maxHeartbeats 800000 in
theorem specBits_yes (ao : Option Addr) (n cap : Nat) (xs : List Int) (w : World) (hn : n ≤ 1048576) (hv : View .i64 w ao n xs) (hall : ∀ j, j < n → Bit (xs.getD j 0)) :
    Calls Try.prog 52 #[.slice ao n cap] w fun e w' => e = .returned (.bool true) ∧ w = w' := by
  have HV := hid (hv)
  have HA := hid (hall)
  clear hv hall
  go_enter Try.func52, Try.ntmps52
  go_wp2
  go_loop [3] (fun i => ∃ k : Nat, k ≤ n ∧ i = .int .i64 k) (fun i => n - (intOf i).toNat)
  case atStart => exact ⟨0, by omega, rfl⟩
  case round =>
    obtain ⟨k, hk, rfl⟩ := hrel
    by_cases hlt : k < n
    · obtain ⟨b, off, rfl, hc⟩ := HV.out.2 k hlt
      have hbit := HA.out k hlt
      have hd : decide ((0 : Int) ≤ xs.getD k 0 ∧ xs.getD k 0 ≤ 1) = true := by rcases hbit with h | h <;> rw [h] <;> decide
      generalize xs.getD k 0 = X at *
      clear hbit
      go_wp2_with (go_at_call 51; refine (spec_in _ _ _ _).mono ?_; rw [hd]; rintro e w' ⟨rfl, rfl⟩)
      go_round
      case rel => exact ⟨k + 1, by omega, by go_num⟩
      case measure => simp [intOf]; omega
    · obtain rfl : k = n := by omega
      go_wp2
      go_ret
      exact ⟨rfl, rfl⟩

set_option maxHeartbeats 800000 in
theorem specBits_no (ao : Option Addr) (n cap : Nat) (xs : List Int) (w : World) (hn : n ≤ 1048576) (hv : View .i64 w ao n xs) (hall : ¬ ∀ j, j < n → Bit (xs.getD j 0)) :
    Calls Try.prog 52 #[.slice ao n cap] w fun e w' => e = .returned (.bool false) ∧ w = w' := by
  have HV := hid (hv)
  have HA := hid (hall)
  clear hv hall
  go_enter Try.func52, Try.ntmps52
  go_wp2
  go_loop [3] (fun i => ∃ k : Nat, k ≤ n ∧ i = .int .i64 k ∧ Hid (∀ j, j < k → Bit (xs.getD j 0))) (fun i => n - (intOf i).toNat)
  case atStart => exact ⟨0, by omega, rfl, fun j hj => by omega⟩
  case round =>
    obtain ⟨k, hk, rfl, hgood⟩ := hrel
    by_cases hlt : k < n
    · obtain ⟨b, off, rfl, hc⟩ := HV.out.2 k hlt
      by_cases hbit : Bit (xs.getD k 0)
      · have hg2 : Hid (∀ j, j < k + 1 → Bit (xs.getD j 0)) := fun j hj => by
          by_cases e : j = k
          · subst e; exact hbit
          · exact hgood.out j (by omega)
        have hd : decide ((0 : Int) ≤ xs.getD k 0 ∧ xs.getD k 0 ≤ 1) = true := by rcases hbit with h | h <;> rw [h] <;> decide
        generalize xs.getD k 0 = X at *
        clear hbit
        go_wp2_with (go_at_call 51; refine (spec_in _ _ _ _).mono ?_; rw [hd]; rintro e w' ⟨rfl, rfl⟩)
        go_round
        case rel => exact ⟨k + 1, by omega, by go_num, hg2⟩
        case measure => simp [intOf]; omega
      · have hd : decide ((0 : Int) ≤ xs.getD k 0 ∧ xs.getD k 0 ≤ 1) = false := by
          simp only [decide_eq_false_iff_not]
          intro h
          apply hbit
          unfold Bit
          omega
        generalize xs.getD k 0 = X at *
        clear hbit
        go_wp2_with (go_at_call 51; refine (spec_in _ _ _ _).mono ?_; rw [hd]; rintro e w' ⟨rfl, rfl⟩)
        go_ret
        exact ⟨rfl, rfl⟩
    · exfalso
      exact HA.out (fun j hj => hgood.out j (by omega))

/-- The number of c bits from place s on. -/
def num (b : Nat → Int) (s : Nat) : Nat → Int
  | 0 => 0
  | c + 1 => 2 * num b s c + b (s + c)

theorem num_bd (b : Nat → Int) (hb : ∀ j, Bit (b j)) (s : Nat) : ∀ c, 0 ≤ num b s c ∧ num b s c < 2 ^ c
  | 0 => by simp [num]
  | c + 1 => by
    have h := num_bd b hb s c
    have e : (2 : Int) ^ (c + 1) = 2 * 2 ^ c := by rw [Int.pow_succ]; omega
    have hbit := hb (s + c)
    rw [e]
    simp only [num]
    rcases hbit with h2 | h2 <;> rw [h2] <;> omega

theorem pow2_mono (t : Nat) : ∀ d, (2 : Int) ^ t ≤ 2 ^ (t + d)
  | 0 => Int.le_refl _
  | d + 1 => by
    have h := pow2_mono t d
    have e : (2 : Int) ^ (t + (d + 1)) = 2 * 2 ^ (t + d) := by rw [← Nat.add_assoc, Int.pow_succ]; omega
    have p : (0 : Int) < 2 ^ t := Int.pow_pos (by decide)
    omega

theorem num_le (b : Nat → Int) (hb : ∀ j, Bit (b j)) (s c m : Nat) (h : c ≤ m) : num b s c < 2 ^ m := by
  have h1 := num_bd b hb s c
  have h2 := pow2_mono c (m - c)
  rw [show c + (m - c) = m by omega] at h2
  omega

/-- The bits of a list; 1 behind its end. -/
def pad (xs : List Int) (j : Nat) : Int := if j < xs.length then xs.getD j 0 else 1
theorem pad_in (xs : List Int) (j : Nat) (h : j < xs.length) : pad xs j = xs.getD j 0 := by unfold pad; rw [if_pos h]
theorem pad_out (xs : List Int) (j : Nat) (h : ¬ j < xs.length) : pad xs j = 1 := by unfold pad; rw [if_neg h]
theorem pad_bit (xs : List Int) (h : ∀ j, j < xs.length → Bit (xs.getD j 0)) (j : Nat) : Bit (pad xs j) := by
  unfold pad
  split
  · exact h j (by assumption)
  · exact .inr rfl

set_option maxHeartbeats 800000 in
theorem spec_bitsNum (ao : Option Addr) (n cap : Nat) (xs : List Int) (w : World) (hn : n ≤ 32) (hv : View .i64 w ao n xs) (hall : ∀ j, j < n → Bit (xs.getD j 0)) :
    Calls Try.prog 112 #[.slice ao n cap] w fun e w' => e = .returned (.int .i64 (num (pad xs) 0 n)) ∧ w = w' := by
  have HC := hid (specBits_yes ao n cap xs w (by omega) hv hall)
  have hb := pad_bit xs (by rw [hv.1]; exact hall)
  have HB := hid (hb)
  have HV := hid (hv)
  have hl : decide ((32 : Int) < (n : Int)) = false := by simp; omega
  clear hv hall hb
  go_enter Try.func112, Try.ntmps112
  go_wp2_with (go_at_call 52; refine HC.out.mono ?_; rintro e w' ⟨rfl, rfl⟩)
  go_loop [3, 4] (fun x i => ∃ k : Nat, k ≤ n ∧ i = .int .i64 k ∧ x = .int .i64 (num (pad xs) 0 k)) (fun _ i => n - (intOf i).toNat)
  case atStart => exact ⟨0, by omega, rfl, rfl⟩
  case round =>
    obtain ⟨k, hk, rfl, rfl⟩ := hrel
    by_cases hlt : k < n
    · obtain ⟨b, off, rfl, hc⟩ := HV.out.2 k hlt
      have h0 := (num_bd (pad xs) HB.out 0 k).1
      have h1 := num_le (pad xs) HB.out 0 k 32 (by omega)
      have hst : Hid (num (pad xs) 0 (k + 1) = 2 * num (pad xs) 0 k + xs.getD k 0) := by
        show _ = _
        rw [num, Nat.zero_add, pad_in xs k (by rw [HV.out.1]; exact hlt)]
      have hbit := HB.out k
      rw [pad_in xs k (by rw [HV.out.1]; exact hlt)] at hbit
      generalize xs.getD k 0 = X at *
      generalize num (pad xs) 0 k = Y at *
      have hx0 : 0 ≤ X := by rcases hbit with h | h <;> omega
      have hx1 : X ≤ 1 := by rcases hbit with h | h <;> omega
      clear hbit
      go_wp2
      go_round
      case rel => exact ⟨k + 1, by omega, by go_num, val_int hst.out.symm⟩
      case measure => simp [intOf]; omega
    · obtain rfl : k = n := by omega
      go_wp2
      go_ret
      exact ⟨rfl, rfl⟩

set_option maxHeartbeats 800000 in
theorem spec_bitsNum_no (ao : Option Addr) (n cap : Nat) (xs : List Int) (w : World) (hn : n ≤ 1048576) (hv : View .i64 w ao n xs) (hbad : 32 < n ∨ ¬ ∀ j, j < n → Bit (xs.getD j 0)) :
    Calls Try.prog 112 #[.slice ao n cap] w fun e w' => e = .returned (.int .i64 (-1)) ∧ w = w' := by
  by_cases h : (32 : Int) < (n : Int)
  · clear hbad
    go_enter Try.func112, Try.ntmps112
    go_wp2
    go_ret
    exact ⟨rfl, rfl⟩
  · have HC := hid (specBits_no ao n cap xs w hn hv (by rcases hbad with h2 | h2; omega; exact h2))
    have hl : decide ((32 : Int) < (n : Int)) = false := by simp; omega
    clear hbad hv
    go_enter Try.func112, Try.ntmps112
    go_wp2_with (go_at_call 52; refine HC.out.mono ?_; rintro e w' ⟨rfl, rfl⟩)
    go_ret
    exact ⟨rfl, rfl⟩

/-- The writer: its word, how many bits it holds, what has been written. -/
def Wr (w : World) (B : Nat) (x h : Int) (v : Value) : Prop := w.heap[B]? = some (.cells #[.int .u32 x, .int .i64 h, v] 132 (0, 0))

theorem Wr.cells {w : World} {B : Nat} {x h : Int} {v : Value} (hw : Wr w B x h v) :
    w.cell? ⟨B, 0, none⟩ = some (.int .u32 x) ∧ w.cell? ⟨B, 1, none⟩ = some (.int .i64 h) ∧ w.cell? ⟨B, 2, none⟩ = some v ∧ w.frozen? ⟨B, 0, none⟩ = false ∧ w.frozen? ⟨B, 1, none⟩ = false ∧ w.frozen? ⟨B, 2, none⟩ = false := by
  unfold Wr at hw
  simp [World.cell?, World.frozen?, hw]

theorem Wr.set0 {w : World} {B : Nat} {x h y : Int} {v : Value} (hw : Wr w B x h v) : Wr (w.setCell ⟨B, 0, none⟩ (.int .u32 y)) B y h v := heap_setCell_same w B 0 _ 132 _ hw
theorem Wr.set1 {w : World} {B : Nat} {x h y : Int} {v : Value} (hw : Wr w B x h v) : Wr (w.setCell ⟨B, 1, none⟩ (.int .i64 y)) B x y v := heap_setCell_same w B 1 _ 132 _ hw
theorem Wr.set2 {w : World} {B : Nat} {x h : Int} {v u : Value} (hw : Wr w B x h v) : Wr (w.setCell ⟨B, 2, none⟩ u) B x h u := heap_setCell_same w B 2 _ 132 _ hw

theorem or_bit (x b : Int) (h0 : 0 ≤ x) (h1 : x < 2147483648) (hb : Bit b) : bits .or .u32 (x * 2) b = 2 * x + b := by
  rw [bits_join .u32 32 (by decide) (fun n h0 h1 => by rw [IntKind.wrap_u32]; omega) 1 (x * 2) b (by omega) (by omega) (by omega) (by rcases hb with h | h <;> omega) (by rcases hb with h | h <;> omega) (by rcases hb with h | h <;> omega)]
  omega

set_option maxHeartbeats 800000 in
/-- A bit is put where there is room for it. -/
theorem put_room (B : Nat) (x h b : Int) (v : Value) (w : World) (hw : Wr w B x h v) (h0 : 0 ≤ h) (h1 : h < 32) (x0 : 0 ≤ x) (x1 : x < 2147483648) (hb : Bit b) :
    Calls Try.prog 107 #[.pointer (some ⟨B, 0, none⟩), .int .i64 b] w fun e w' => e = .returned (.tuple #[]) ∧ w' = (w.setCell ⟨B, 0, none⟩ (.int .u32 (2 * x + b))).setCell ⟨B, 1, none⟩ (.int .i64 (h + 1)) := by
  obtain ⟨c0, c1, c2, f0, f1, f2⟩ := hw.cells
  have hq : (h == 32) = false := by simp; omega
  have ho := or_bit x b x0 x1 hb
  have b0 : 0 ≤ b := by rcases hb with h | h <;> omega
  have b1 : b ≤ 1 := by rcases hb with h | h <;> omega
  have HW := hid (hw)
  clear hb hw
  go_enter Try.func107, Try.ntmps107
  go_wp2

  go_end0
  exact ⟨rfl, rfl⟩
end Go.Proofs.Ytcikmgdfelejpaa
