/- Texts joined: Aid, View, Ints, Bits, Blk, Shift. No statement is proved here. -/
import Derived.WalkKit
import Derived.WalkSpells
import Derived.WalkLawsBesides
import Derived.Laws.BytesArg
import Derived.Outline
import Derived.Deep.RegionLaw
import Derived.OpenShut
import Derived.Test.YtnnakmgngkpghaaGreatRows
import Derived.Deep.QuietTactic
import Derived.BigQuiet

/- Plain helpers of this seat's proofs: slices of numbers that a call makes for itself, grown by one number at a time, and turned into texts. No statement is proved here. -/
namespace Go.Proofs.YtnnakmgngkpghaaGreat
open Go.RowKit
set_option linter.unusedVariables false

theorem ret_int {k : IntKind} {a b : Int} (h : a = b) : Ending.returned (.int k a) = .returned (.int k b) := by rw [h]
theorem ret_str {a b : ByteArray} (h : a = b) : Ending.returned (.string a) = .returned (.string b) := by rw [h]
theorem ret_bool {a b : Bool} (h : a = b) : Ending.returned (.bool a) = .returned (.bool b) := by rw [h]
theorem below_drewN (w : World) (n : Nat) : Below w.heap.size w (w.drewN n) := ⟨rfl, rfl, rfl, Nat.le_refl _, fun _ _ => rfl⟩
theorem belowN {B : Nat} {a w : World} (h : Below B a w) (n : Nat) : Below B a (w.drewN n) := ⟨h.os, h.tape, h.output, h.size, h.block⟩
theorem hid {p : Prop} (h : p) : Hid p := h
theorem w64 {x : Int} (h0 : -9223372036854775808 ≤ x) (h1 : x ≤ 9223372036854775807) : wrap64 x = x := by
  unfold wrap64; omega
theorem byte_lt (a : UInt8) : (a.toNat : Int) < 256 := by have := a.toNat_lt; omega

/-- The slice v is the call's own (its row lies from block 'base' on) and holds the numbers xs. -/
def Own (w : World) (base : Nat) (e : TypeId) (k : IntKind) (v : Value) (xs : List Int) : Prop :=
  base ≤ w.heap.size ∧ w.ownsRow base e 1 v xs.length (xs.map (Value.int k))

theorem Own.shape {w : World} {base : Nat} {e : TypeId} {k : IntKind} {v : Value} {xs : List Int} (h : Own w base e k v xs) : ∃ ao cap, v = .slice ao xs.length cap := by
  rcases h.2.2 with ⟨rfl, h0⟩ | ⟨g, cap, cur, rfl, _⟩
  · exact ⟨none, 0, by rw [h0]⟩
  · exact ⟨_, _, rfl⟩

theorem Own.drew {w : World} {base : Nat} {e : TypeId} {k : IntKind} {v : Value} {xs : List Int} (h : Own w base e k v xs) (n : Nat) : Own (w.drewN n) base e k v xs := h

theorem Own.drew1 {w : World} {base : Nat} {e : TypeId} {k : IntKind} {v : Value} {xs : List Int} (h : Own w base e k v xs) : Own w.drew base e k v xs := h

theorem Own.alloc {w : World} {base : Nat} {e : TypeId} {k : IntKind} {v : Value} {xs : List Int} (h : Own w base e k v xs) (o : Obj) : Own (w.alloc o) base e k v xs :=
  ⟨Nat.le_trans h.1 (by simp), h.2.alloc o⟩

/-- An own slice stays what it is where all blocks that were there stay what they are. -/
theorem Own.below {w w' : World} {base : Nat} {e : TypeId} {k : IntKind} {v : Value} {xs : List Int} (h : Own w base e k v xs) (hb : Below w.heap.size w w') : Own w' base e k v xs := by
  refine ⟨Nat.le_trans h.1 hb.size, h.2.1, ?_⟩
  rcases h.2.2 with h0 | ⟨g, cap, cur, hv, hg, hh, r⟩
  · exact .inl h0
  · exact .inr ⟨g, cap, cur, hv, hg, (hb.block g (Array.getElem?_eq_some_iff.1 hh).1).trans hh, r⟩

/-- A store into a block below the base. -/
theorem Own.setCell_below {w : World} {base : Nat} {e : TypeId} {k : IntKind} {v : Value} {xs : List Int} (h : Own w base e k v xs) {a : Addr} (ha : a.block < base) (u : Value) : Own (w.setCell a u) base e k v xs :=
  ⟨by have := h.1; simpa [World.setCell] using this, ownsRow_setCell_below h.2 ha u⟩

theorem Own.nil (w : World) (e : TypeId) (k : IntKind) (base : Nat) (hb : base ≤ w.heap.size) : Own w base e k (.slice none 0 0) [] :=
  ⟨hb, World.ownsRow_nil _ _ _ _⟩

/-- 'out := []T{}'. -/
theorem Own.empty (w : World) (e : TypeId) (k : IntKind) (base : Nat) (hb : base ≤ w.heap.size) : Own (w.alloc (.cells #[] e)) base e k (.slice (some ⟨w.heap.size, 0, none⟩) 0 0) [] :=
  ⟨Nat.le_trans hb (by simp), World.ownsRow_made w #[] 0 hb (by simp [maxLen]) rfl⟩

/-- The numbers, cell by cell. -/
theorem Own.cell {w : World} {base : Nat} {e : TypeId} {k : IntKind} {v : Value} {xs : List Int} (h : Own w base e k v xs) {a : Addr} {n c : Nat} (hv : v = .slice (some a) n c) (j : Nat) (hj : j < xs.length) :
    w.cell? (a.add j) = some (.int k (xs.getD j 0)) := by
  subst hv
  obtain ⟨_, h⟩ := h
  rcases h.2 with ⟨hn, _⟩ | ⟨g, cap, cur, hv, _⟩
  · cases hn
  · have ha : a = ⟨g, 0, none⟩ := by cases hv; rfl
    subst ha
    refine h.cells (g := g) (by simp [Value.ownBlock]) j _ ?_
    simp [hj]

theorem Own.len {w : World} {base : Nat} {e : TypeId} {k : IntKind} {ao : Option Addr} {n c : Nat} {xs : List Int} (h : Own w base e k (.slice ao n c) xs) : n = xs.length := by
  obtain ⟨ao', c', hv⟩ := h.shape
  cases hv; rfl

/-- 'out = append(out, y)', y laid in a new block of its own first. -/
theorem wpList_push {P : Program} {ops : Array Oper} {rest : List Oper} {o : Oper} {a : Act} {Q : Exit → Act → World → Prop} (w : World) (hgd : o.guard = none) (s x : Operand) (t : TypeId)
    (ho : o.op = .call { callee := .builtin .append, args := #[s, x], argTypes := #[t, t] })
    (base : Nat) (e : TypeId) (k : IntKind) (z : Int) (bytes : Nat) (ht : P.underlying t = some (.slice e)) (hinfo : (P.info? e).map (fun i => (i.zero, i.size, i.bytes)) = some (some (.int k z), 1, bytes))
    (v : Value) (xs : List Int) (hs : a.eval s = v) (hown : Own w base e k v xs) (y : Int) (hx : a.eval x = .slice (some ⟨w.heap.size, 0, none⟩) 1 1)
    (hlen : xs.length < 1000000000000) (hbytes : bytes ≤ 8)
    (h : ∀ v' w', Own w' base e k v' (xs ++ [y]) → Below base w w' → wpList P ops Q rest (a.put o.dst v') w') : wpList P ops Q (o :: rest) a (w.alloc (.cells #[.int k y] e)) := by
  obtain ⟨i, hi, hz0, hz1, hz2⟩ := info_parts hinfo
  have hb := hown.1
  have hlt := hown.2.lt
  have hmul : (xs.length + 1) * bytes ≤ (xs.length + 1) * 8 := Nat.mul_le_mul_left _ hbytes
  refine wpList_append_own _ hgd s x t ho base e i (.int k z) 1 bytes ht hi hz0 hz1 hz2 rfl (by decide) v xs.length _ hs (hown.2.alloc _) ⟨w.heap.size, 0, none⟩ 1 1 [.int k y] hx rfl ?_ ?_ (by unfold maxLen; omega) (by omega) (Nat.le_trans hb (by simp)) ?_
  · intro j u hj
    match j, hj with
    | 0, hj => simp at hj; subst hj; simp [Addr.add]
  · intro u hu; simp at hu; subst hu; rfl
  · intro v' w' hown' hgrow _
    refine h v' w' ⟨Nat.le_trans hb (Nat.le_trans (by simp) hgrow.size), ?_⟩ ?_
    · simpa using hown'
    · exact ((Below.refl base w).alloc hb _).grown hgrow (Nat.le_trans hb (by simp)) (fun g hg => (hlt g hg).1)

/-- 'append(out, y)' as one step of a statement that leaves its order open. -/
theorem step_push1 {P : Program} {ops : Array Oper} {o : Oper} {a : Act} {K : Act → World → Prop} {Q : Exit → Act → World → Prop} {E : Prop} (w : World) (hgd : o.guard = none) (s x : Operand) (t : TypeId)
    (ho : o.op = .call { callee := .builtin .append, args := #[s, x], argTypes := #[t, t] })
    (base : Nat) (e : TypeId) (k : IntKind) (z : Int) (bytes : Nat) (ht : P.underlying t = some (.slice e)) (hinfo : (P.info? e).map (fun i => (i.zero, i.size, i.bytes)) = some (some (.int k z), 1, bytes))
    (v : Value) (xs : List Int) (hs : a.eval s = v) (hown : Own w base e k v xs) (y : Int) (hx : a.eval x = .slice (some ⟨w.heap.size, 0, none⟩) 1 1)
    (hlen : xs.length < 1000000000000) (hbytes : bytes ≤ 8)
    (h : ∀ v' w', Own w' base e k v' (xs ++ [y]) → Below base w w' → K (a.put o.dst v') w') :
    if Region.wanted o (yielded ops a.tmps) = true then Oper.wp P o a (w.alloc (.cells #[.int k y] e)) K Q else E := by
  have hw : Region.wanted o (yielded ops a.tmps) = true := by simp [Region.wanted, hgd]
  rw [if_pos hw]
  obtain ⟨i, hi, hz0, hz1, hz2⟩ := info_parts hinfo
  have hb := hown.1
  have hlt := hown.2.lt
  have hmul : (xs.length + 1) * bytes ≤ (xs.length + 1) * 8 := Nat.mul_le_mul_left _ hbytes
  refine wp_append_own _ s x t ho base e i (.int k z) 1 bytes ht hi hz0 hz1 hz2 rfl (by decide) v xs.length _ hs (hown.2.alloc _) ⟨w.heap.size, 0, none⟩ 1 1 [.int k y] hx rfl ?_ ?_ (by unfold maxLen; omega) (by omega) (Nat.le_trans hb (by simp)) ?_
  · intro j u hj
    match j, hj with
    | 0, hj => simp at hj; subst hj; simp [Addr.add]
  · intro u hu; simp at hu; subst hu; rfl
  · intro v' w' hown' hgrow _
    refine h v' w' ⟨Nat.le_trans hb (Nat.le_trans (by simp) hgrow.size), ?_⟩ ?_
    · simpa using hown'
    · exact ((Below.refl base w).alloc hb _).grown hgrow (Nat.le_trans hb (by simp)) (fun g hg => (hlt g hg).1)

/-- The same, the new block's number told by whatever term. -/
theorem step_push1g {P : Program} {ops : Array Oper} {o : Oper} {a : Act} {K : Act → World → Prop} {Q : Exit → Act → World → Prop} {E : Prop} (w : World) (g : Nat) (hgs : w.heap.size = g) (hgd : o.guard = none) (s x : Operand) (t : TypeId)
    (ho : o.op = .call { callee := .builtin .append, args := #[s, x], argTypes := #[t, t] })
    (base : Nat) (e : TypeId) (k : IntKind) (z : Int) (bytes : Nat) (ht : P.underlying t = some (.slice e)) (hinfo : (P.info? e).map (fun i => (i.zero, i.size, i.bytes)) = some (some (.int k z), 1, bytes))
    (v : Value) (xs : List Int) (hs : a.eval s = v) (hown : Own w base e k v xs) (y : Int) (hx : a.eval x = .slice (some ⟨g, 0, none⟩) 1 1)
    (hlen : xs.length < 1000000000000) (hbytes : bytes ≤ 8)
    (h : ∀ v' w', Own w' base e k v' (xs ++ [y]) → Below base w w' → K (a.put o.dst v') w') :
    if Region.wanted o (yielded ops a.tmps) = true then Oper.wp P o a (w.alloc (.cells #[.int k y] e)) K Q else E := by
  subst hgs
  exact step_push1 w hgd s x t ho base e k z bytes ht hinfo v xs hs hown y hx hlen hbytes h

/-- 'append(out, y1, y2)' as one step of a statement that leaves its order open. -/
theorem step_push2 {P : Program} {ops : Array Oper} {o : Oper} {a : Act} {K : Act → World → Prop} {Q : Exit → Act → World → Prop} {E : Prop} (w : World) (hgd : o.guard = none) (s x : Operand) (t : TypeId)
    (ho : o.op = .call { callee := .builtin .append, args := #[s, x], argTypes := #[t, t] })
    (base : Nat) (e : TypeId) (k : IntKind) (z : Int) (bytes : Nat) (ht : P.underlying t = some (.slice e)) (hinfo : (P.info? e).map (fun i => (i.zero, i.size, i.bytes)) = some (some (.int k z), 1, bytes))
    (v : Value) (xs : List Int) (hs : a.eval s = v) (hown : Own w base e k v xs) (y1 y2 : Int) (hx : a.eval x = .slice (some ⟨w.heap.size, 0, none⟩) 2 2)
    (hlen : xs.length < 1000000000000) (hbytes : bytes ≤ 8)
    (h : ∀ v' w', Own w' base e k v' (xs ++ [y1, y2]) → Below base w w' → K (a.put o.dst v') w') :
    if Region.wanted o (yielded ops a.tmps) = true then Oper.wp P o a (w.alloc (.cells #[.int k y1, .int k y2] e)) K Q else E := by
  have hw : Region.wanted o (yielded ops a.tmps) = true := by simp [Region.wanted, hgd]
  rw [if_pos hw]
  obtain ⟨i, hi, hz0, hz1, hz2⟩ := info_parts hinfo
  have hb := hown.1
  have hlt := hown.2.lt
  have hmul : (xs.length + 2) * bytes ≤ (xs.length + 2) * 8 := Nat.mul_le_mul_left _ hbytes
  refine wp_append_own _ s x t ho base e i (.int k z) 1 bytes ht hi hz0 hz1 hz2 rfl (by decide) v xs.length _ hs (hown.2.alloc _) ⟨w.heap.size, 0, none⟩ 2 2 [.int k y1, .int k y2] hx rfl ?_ ?_ (by unfold maxLen; omega) (by omega) (Nat.le_trans hb (by simp)) ?_
  · intro j u hj
    match j, hj with
    | 0, hj => simp at hj; subst hj; simp [Addr.add]
    | 1, hj => simp at hj; subst hj; simp [Addr.add]
  · intro u hu; simp at hu; rcases hu with rfl | rfl <;> rfl
  · intro v' w' hown' hgrow _
    refine h v' w' ⟨Nat.le_trans hb (Nat.le_trans (by simp) hgrow.size), ?_⟩ ?_
    · simpa using hown'
    · exact ((Below.refl base w).alloc hb _).grown hgrow (Nat.le_trans hb (by simp)) (fun g hg => (hlt g hg).1)

/-- 'out := make([]T, 0, n)'. -/
theorem wpList_mk0 {P : Program} {ops : Array Oper} {rest : List Oper} {o : Oper} {a : Act} {Q : Exit → Act → World → Prop} (w : World) (hgd : o.guard = none) (l c : Operand) (t : TypeId)
    (ho : o.op = Op.makeSlice t l c) (base : Nat) (e : TypeId) (k : IntKind) (z : Int) (bytes : Nat) (ht : P.underlying t = some (.slice e)) (hinfo : (P.info? e).map (fun i => (i.zero, i.size, i.bytes)) = some (some (.int k z), 1, bytes))
    (kl kc : IntKind) (n : Nat) (hl : a.eval l = .int kl 0) (hc : a.eval c = .int kc n) (hn : n ≤ 1000000000000) (hbytes : bytes ≤ 8) (hb : base ≤ w.heap.size)
    (h : ∀ w', Own w' base e k (.slice (some ⟨w.heap.size, 0, none⟩) 0 n) [] → Below base w w' → wpList P ops Q rest (a.put o.dst (.slice (some ⟨w.heap.size, 0, none⟩) 0 n)) w') : wpList P ops Q (o :: rest) a w := by
  obtain ⟨i, hi, hz0, hz1, hz2⟩ := info_parts hinfo
  have hmul : i.bytes * n ≤ 8 * n := Nat.mul_le_mul_right _ (by rw [hz2]; exact hbytes)
  refine wpList_make_own w hgd l c t ho base e i (.int k z) 1 ht hi hz0 hz1 kl kc n n hl hc rfl (by omega) (by unfold maxLen; omega) hb ?_
  intro w' hown hgrow
  exact h w' ⟨Nat.le_trans hb hgrow.size, hown⟩ ((Below.refl base w).grown hgrow hb (fun _ hg => by cases hg))

/-- 'out := make([]T, n)': n zeros. -/
theorem wpList_mkn {P : Program} {ops : Array Oper} {rest : List Oper} {o : Oper} {a : Act} {Q : Exit → Act → World → Prop} (w : World) (hgd : o.guard = none) (l c : Operand) (t : TypeId)
    (ho : o.op = Op.makeSlice t l c) (base : Nat) (e : TypeId) (k : IntKind) (bytes : Nat) (ht : P.underlying t = some (.slice e)) (hinfo : (P.info? e).map (fun i => (i.zero, i.size, i.bytes)) = some (some (.int k 0), 1, bytes))
    (kl kc : IntKind) (n : Nat) (hl : a.eval l = .int kl n) (hc : a.eval c = .int kc n) (hn : n ≤ 1000000000000) (hbytes : bytes ≤ 8) (hb : base ≤ w.heap.size)
    (h : ∀ w', Own w' base e k (.slice (some ⟨w.heap.size, 0, none⟩) n n) (List.replicate n 0) → Below base w w' → wpList P ops Q rest (a.put o.dst (.slice (some ⟨w.heap.size, 0, none⟩) n n)) w') : wpList P ops Q (o :: rest) a w := by
  obtain ⟨i, hi, hz0, hz1, hz2⟩ := info_parts hinfo
  have hmul : i.bytes * n ≤ 8 * n := Nat.mul_le_mul_right _ (by rw [hz2]; exact hbytes)
  refine wpList_make_full w hgd l c t ho base e i (.int k 0) 1 ht hi hz0 hz1 kl kc n n n hl hc rfl rfl (by omega) (by unfold maxLen; omega) hb ?_
  intro w' hown hgrow
  refine h w' ⟨Nat.le_trans hb hgrow.size, ?_⟩ ((Below.refl base w).grown hgrow hb (fun _ hg => by cases hg))
  have e1 : (madeCells (Value.int k 0).cells (n * 1)).toList = (List.replicate n (0 : Int)).map (Value.int k) := by
    simp only [madeCells, Value.cells, List.map_replicate]
    rw [List.eq_replicate_iff]
    refine ⟨by simp, ?_⟩
    intro b hb
    simp [Nat.mod_one] at hb
    exact hb.2.symm
  rw [e1] at hown
  simpa using hown

/-- 'string(out)'. -/
theorem Own.conv {P : Program} {w : World} {base src e dst : TypeId} {v : Value} {xs : List Int} (hs : P.underlying src = some (.slice e)) (he : P.underlying e = some (.int .u8)) (hd : P.underlying dst = some .string)
    (h : Own w base e .u8 v xs) : Sem.run P (convert src dst v) w = .ok (.string (strOfNums xs)) w := by
  rcases h.2.2 with ⟨rfl, h0⟩ | ⟨g, cap, cur, rfl, _⟩
  · have : xs = [] := List.length_eq_zero_iff.1 h0
    subst this
    exact run_convert_bytes_nil w src e hs he 0 0 dst hd
  · refine run_convert_bytes_arg w src e hs he g 0 xs.length cap xs rfl ?_ dst hd
    intro i hi
    have := h.cell rfl i hi
    rw [Addr.add_lit] at this
    exact this
end Go.Proofs.YtnnakmgngkpghaaGreat

/- Plain helpers of this seat's proofs: slices of ints that are read, wherever they lie. No statement is proved here. -/
namespace Go.Proofs.YtnnakmgngkpghaaGreat
open Go.RowKit
set_option linter.unusedVariables false

theorem val_int {k : IntKind} {a b : Int} (h : a = b) : Value.int k a = .int k b := by rw [h]

/-- What a walk is told of a slice of integers that came in: it is nil; or it leads to a row of 'cap' cells, the numbers 'zs'. -/
def IsRow (k : IntKind) (w : World) (a : Option Addr) (len cap : Nat) (zs : List Int) : Prop :=
  (a = none ∧ len = 0 ∧ cap = 0 ∧ zs = []) ∨
  ∃ x, a = some x ∧ len ≤ cap ∧ cap ≤ maxLen ∧ zs.length = cap ∧ (∀ i, i < zs.length → w.cell? (x.add i) = some (.int k (zs.getD i 0))) ∧ ∀ n ∈ zs, (Lit.int k n).wf = true

/-- The slice at 'ao', of n numbers, reads as xs. -/
def View (k : IntKind) (w : World) (ao : Option Addr) (n : Nat) (xs : List Int) : Prop :=
  xs.length = n ∧ ∀ i, i < n → ∃ b off, ao = some ⟨b, off, none⟩ ∧ w.cell? ⟨b, off + i, none⟩ = some (.int k (xs.getD i 0))

theorem IsRow.view {k : IntKind} {w : World} {a : Option Addr} {len cap : Nat} {zs : List Int} (h : IsRow k w a len cap zs) : View k w a len (zs.take len) := by
  rcases h with ⟨rfl, rfl, rfl, rfl⟩ | ⟨x, rfl, hl, hm, hz, hcell, hwz⟩
  · exact ⟨rfl, fun i hi => by omega⟩
  · refine ⟨by simp; omega, fun i hi => ?_⟩
    obtain ⟨b, off, spot⟩ := x
    have hc := hcell 0 (by omega)
    have hspot : spot = none := by simpa [Addr.add] using World.cell?_spot hc
    subst hspot
    refine ⟨b, off, rfl, ?_⟩
    have := hcell i (by omega)
    rw [Addr.add_lit] at this
    rw [this]
    simp [List.getD, hi]

theorem IsRow.wf {k : IntKind} {w : World} {a : Option Addr} {len cap : Nat} {zs : List Int} (h : IsRow k w a len cap zs) : ∀ n ∈ zs.take len, (Lit.int k n).wf = true := by
  rcases h with ⟨rfl, rfl, rfl, rfl⟩ | ⟨x, rfl, hl, hm, hz, hcell, hwz⟩
  · intro n hn; simp at hn
  · intro n hn; exact hwz n (List.mem_of_mem_take hn)

theorem IsRow.len {k : IntKind} {w : World} {a : Option Addr} {len cap : Nat} {zs : List Int} (h : IsRow k w a len cap zs) : len ≤ 9223372036854775807 ∧ (a = none → len = 0) := by
  rcases h with ⟨rfl, rfl, rfl, rfl⟩ | ⟨x, rfl, hl, hm, hz, hcell, hwz⟩
  · exact ⟨by decide, fun _ => rfl⟩
  · unfold maxLen at hm
    exact ⟨by omega, fun h => by cases h⟩

theorem View.below {k : IntKind} {w w' : World} {B : Nat} {ao : Option Addr} {n : Nat} {xs : List Int} (h : View k w ao n xs) (hB : w.heap.size ≤ B) (hb : Below B w w') : View k w' ao n xs := by
  refine ⟨h.1, fun i hi => ?_⟩
  obtain ⟨b, off, rfl, hc⟩ := h.2 i hi
  exact ⟨b, off, rfl, (hb.cell (p := ⟨b, off + i, none⟩) (Nat.lt_of_lt_of_le (World.block_lt_of_cell? w _ hc) hB)).trans hc⟩

theorem Own.view {k : IntKind} {w : World} {base : Nat} {e : TypeId} {v : Value} {xs : List Int} (h : Own w base e k v xs) : ∃ ao cap, v = .slice ao xs.length cap ∧ View k w ao xs.length xs := by
  obtain ⟨ao, cap, rfl⟩ := h.shape
  refine ⟨ao, cap, rfl, rfl, fun i hi => ?_⟩
  rcases h.2.2 with ⟨hn, h0⟩ | ⟨g, cap', cur, hv, _⟩
  · omega
  · have ha : ao = some ⟨g, 0, none⟩ := by cases hv; rfl
    subst ha
    refine ⟨g, 0, rfl, ?_⟩
    have := h.cell rfl i hi
    rw [Addr.add_lit] at this
    exact this

/-- A store into an own slice. -/
theorem Own.store {k : IntKind} {w : World} {base : Nat} {e : TypeId} {g n c : Nat} {ys : List Int} (h : Own w base e k (.slice (some ⟨g, 0, none⟩) n c) ys) (j : Nat) (x : Int) :
    Own (w.setCell ⟨g, j, none⟩ (.int k x)) base e k (.slice (some ⟨g, 0, none⟩) n c) (ys.set j x) := by
  have hl := h.len
  subst hl
  have := (h.2.stored j (.int k x)).1
  refine ⟨by have := h.1; simpa [World.setCell] using this, ?_⟩
  simpa using this

theorem Own.free {k : IntKind} {w : World} {base : Nat} {e : TypeId} {g n c : Nat} {ys : List Int} (h : Own w base e k (.slice (some ⟨g, 0, none⟩) n c) ys) (j : Nat) : w.frozen? ⟨g, j, none⟩ = false := by
  have hl := h.len
  subst hl
  exact h.2.frozenAt j

theorem Own.at {k : IntKind} {w : World} {base : Nat} {e : TypeId} {g n c : Nat} {ys : List Int} (h : Own w base e k (.slice (some ⟨g, 0, none⟩) n c) ys) (j : Nat) (hj : j < ys.length) : w.cell? ⟨g, j, none⟩ = some (.int k (ys.getD j 0)) := by
  have := h.cell rfl j hj
  rw [Addr.add_lit, Nat.zero_add] at this
  exact this

theorem Own.ge {k : IntKind} {w : World} {base : Nat} {e : TypeId} {a : Addr} {n c : Nat} {ys : List Int} (h : Own w base e k (.slice (some a) n c) ys) : base ≤ a.block ∧ a.block < w.heap.size :=
  h.2.lt a.block rfl

theorem list_eq_of_getD {xs ys : List Int} (hl : xs.length = ys.length) (h : ∀ i, i < xs.length → xs.getD i 0 = ys.getD i 0) : xs = ys := by
  apply List.ext_getElem hl
  intro i h1 h2
  have := h i h1
  simpa [List.getD, h1, h2] using this
end Go.Proofs.YtnnakmgngkpghaaGreat

/- Contracts of the small functions over slices of ints: toIntS, eqIntS, the two tests for bits. -/
namespace Go.Proofs.YtnnakmgngkpghaaGreat
open Go.RowKit
set_option linter.unusedVariables false

theorem Tryz.info3 : (Tryz.prog.info? 3).map (fun i => (i.zero, i.size, i.bytes)) = some (some (.int .i64 0), 1, 8) := by kernel_rfl
theorem Tryz.info5 : (Tryz.prog.info? 5).map (fun i => (i.zero, i.size, i.bytes)) = some (some (.int .u8 0), 1, 1) := by kernel_rfl

theorem spec_in (x a b : Int) (w : World) :
    Calls Tryz.prog 20 #[.int .i64 x, .int .i64 a, .int .i64 b] w fun e w' => e = .returned (.bool (decide (a ≤ x ∧ x ≤ b))) ∧ w = w' := by
  by_cases h1 : a ≤ x <;> by_cases h2 : x ≤ b
  all_goals
    go_enter Tryz.func20, Tryz.ntmps20
    go_wp2
    go_ret
    exact ⟨by simp [h1, h2], rfl⟩

set_option maxHeartbeats 800000 in
/-- A copy in new memory. -/
theorem toInts (ao : Option Addr) (n cap : Nat) (xs : List Int) (w : World) (hn : n ≤ 1048576) (hv : View .i64 w ao n xs) :
    Calls Tryz.prog 62 #[.slice ao n cap] w fun e w' => ∃ v, e = .returned v ∧ Own w' w.heap.size 3 .i64 v xs ∧ Below w.heap.size w w' := by
  have HV := show Hid _ from hv
  clear hv
  go_enter Tryz.func62, Tryz.ntmps62
  go_wp2_with (at_make; refine wpList_mkn w rfl _ _ 22 rfl w.heap.size 3 .i64 8 Tryz.underlying22 Tryz.info3 _ _ n rfl rfl (by omega) (by decide) (Nat.le_refl _) ?_)
  intro w0 hown0 hb0
  go_wp2
  go_loopw [4] (fun i wr => ∃ (k : Nat) (ys : List Int), k ≤ n ∧ i = .int .i64 k ∧ Own wr w.heap.size 3 .i64 (.slice (some ⟨w.heap.size, 0, none⟩) n n) ys ∧ Hid (ys.length = n ∧ ∀ j, j < k → ys.getD j 0 = xs.getD j 0) ∧ Below w.heap.size w wr) (fun i _ => n - (intOf i).toNat)
  case atStart => exact ⟨0, _, by omega, rfl, hown0, ⟨by simp, fun j hj => by omega⟩, hb0⟩
  case round =>
    obtain ⟨k, ys, hk, rfl, hown, hys, hb⟩ := hrel
    clear hown0 hb0
    by_cases hlt : k < n
    · obtain ⟨b, off, rfl, hc⟩ := HV.out.2 k hlt
      have hcr : wr.cell? ⟨b, off + k, none⟩ = some (.int .i64 (xs.getD k 0)) := (hb.cell (p := ⟨b, off + k, none⟩) (World.block_lt_of_cell? w _ hc)).trans hc
      have hold := hown.at k (by have := hys.out.1; omega)
      have hfree := hown.free k
      have hnew := hown.store k (xs.getD k 0)
      generalize hX : xs.getD k 0 = X at *
      have HX := show Hid _ from hX
      generalize ys.getD k 0 = Y at *
      clear hX hc
      go_wp2
      go_roundw
      case rel =>
        refine ⟨k + 1, _, by omega, by go_num, hnew, ⟨by simp; exact hys.out.1, fun j hj => ?_⟩, hb.setCell (p := ⟨w.heap.size, k, none⟩) (Nat.le_refl _) _⟩
        by_cases e : j = k
        · subst e
          rw [HX.out]
          simp [List.getD, hys.out.1, hlt]
        · rw [← hys.out.2 j (by omega)]
          simp [List.getD, show k ≠ j from fun h => e h.symm]
      case measure => simp [intOf]; omega
    · obtain rfl : k = n := by omega
      have hxy : ys = xs := list_eq_of_getD (by rw [hys.out.1, HV.out.1]) (fun i hi => hys.out.2 i (by rw [← hys.out.1]; exact hi))
      subst hxy
      go_wp2
      go_ret
      exact ⟨_, rfl, hown, hb⟩

set_option maxHeartbeats 800000 in
/-- Two slices that read as the same numbers. -/
theorem eqInts_same (ao bo : Option Addr) (n cap cap' : Nat) (xs : List Int) (w : World) (hn : n ≤ 4194304) (ha : View .i64 w ao n xs) (hb : View .i64 w bo n xs) :
    Calls Tryz.prog 67 #[.slice ao n cap, .slice bo n cap'] w fun e w' => e = .returned (.bool true) ∧ Below w.heap.size w w' := by
  have HA := show Hid _ from ha
  have HB := show Hid _ from hb
  clear ha hb
  go_enter Tryz.func67, Tryz.ntmps67
  go_wp2
  go_loopw [5] (fun i wr => ∃ k : Nat, k ≤ n ∧ i = .int .i64 k ∧ ∃ q, wr = w.drewN q) (fun i _ => n - (intOf i).toNat)
  case atStart => exact ⟨0, by omega, rfl, 0, rfl⟩
  case round =>
    obtain ⟨k, hk, rfl, q, rfl⟩ := hrel
    by_cases hlt : k < n
    · obtain ⟨b, off, rfl, hc⟩ := HA.out.2 k hlt
      obtain ⟨b', off', rfl, hc'⟩ := HB.out.2 k hlt
      have hlt' : (k : Int) < (n : Int) := by omega
      generalize xs.getD k 0 = X at *
      go_wp2
      go_quiet (fail)
      go_wp2
      go_roundw
      case rel => exact ⟨k + 1, by omega, by go_num, _, rfl⟩
      case measure => simp [intOf]; omega
    · obtain rfl : k = n := by omega
      go_wp2
      go_ret
      exact ⟨rfl, belowN (Below.refl _ _) _⟩
end Go.Proofs.YtnnakmgngkpghaaGreat

/- Contracts of the two tests for bits, of the specification's BitsNum, and of the writer's put where there is room. -/
namespace Go.Proofs.YtnnakmgngkpghaaGreat
open Go.RowKit
set_option linter.unusedVariables false

def Bit (x : Int) : Prop := x = 0 ∨ x = 1

theorem isBit_yes (x : Int) (h : Bit x) (w : World) : Calls Tryz.prog 116 #[.int .i64 x] w fun e w' => e = .returned (.bool true) ∧ w = w' := by
  rcases h with rfl | rfl
  all_goals
    go_enter Tryz.func116, Tryz.ntmps116
    go_wp2
    go_ret
    exact ⟨rfl, rfl⟩
theorem isBit_no (x : Int) (h : ¬ Bit x) (w : World) : Calls Tryz.prog 116 #[.int .i64 x] w fun e w' => e = .returned (.bool false) ∧ w = w' := by
  have h0 : (x == 0) = false := by simp only [beq_eq_false_iff_ne]; intro e; exact h (.inl e)
  have h1 : (x == 1) = false := by simp only [beq_eq_false_iff_ne]; intro e; exact h (.inr e)
  clear h
  go_enter Tryz.func116, Tryz.ntmps116
  go_wp2
  go_ret
  exact ⟨rfl, rfl⟩

set_option maxHeartbeats 800000 in
theorem areBits_yes (ao : Option Addr) (n cap : Nat) (xs : List Int) (w : World) (hn : n ≤ 1048576) (hv : View .i64 w ao n xs) (hall : ∀ j, j < n → Bit (xs.getD j 0)) :
    Calls Tryz.prog 97 #[.slice ao n cap] w fun e w' => e = .returned (.bool true) ∧ w = w' := by
  have HV := hid (hv)
  have HA := hid (hall)
  clear hv hall
  go_enter Tryz.func97, Tryz.ntmps97
  go_wp2
  go_loop [7] (fun i => ∃ k : Nat, k ≤ n ∧ i = .int .i64 k) (fun i => n - (intOf i).toNat)
  case atStart => exact ⟨0, by omega, rfl⟩
  case round =>
    obtain ⟨k, hk, rfl⟩ := hrel
    by_cases hlt : k < n
    · obtain ⟨b, off, rfl, hc⟩ := HV.out.2 k hlt
      have hbit := HA.out k hlt
      generalize xs.getD k 0 = X at *
      have HI := hid (fun q : World => isBit_yes X hbit q)
      clear hbit
      go_wp2_with (go_at_call 116; refine (HI.out _).mono ?_; rintro e w' ⟨rfl, rfl⟩)
      go_round
      case rel => exact ⟨k + 1, by omega, by go_num⟩
      case measure => simp [intOf]; omega
    · obtain rfl : k = n := by omega
      go_wp2
      go_ret
      exact ⟨rfl, rfl⟩

set_option maxHeartbeats 800000 in
theorem areBits_no (ao : Option Addr) (n cap : Nat) (xs : List Int) (w : World) (hn : n ≤ 1048576) (hv : View .i64 w ao n xs) (hall : ¬ ∀ j, j < n → Bit (xs.getD j 0)) :
    Calls Tryz.prog 97 #[.slice ao n cap] w fun e w' => e = .returned (.bool false) ∧ w = w' := by
  have HV := hid (hv)
  have HA := hid (hall)
  clear hv hall
  go_enter Tryz.func97, Tryz.ntmps97
  go_wp2
  go_loop [7] (fun i => ∃ k : Nat, k ≤ n ∧ i = .int .i64 k ∧ Hid (∀ j, j < k → Bit (xs.getD j 0))) (fun i => n - (intOf i).toNat)
  case atStart => exact ⟨0, by omega, rfl, fun j hj => by omega⟩
  case round =>
    obtain ⟨k, hk, rfl, hgood⟩ := hrel
    by_cases hlt : k < n
    · obtain ⟨b, off, rfl, hc⟩ := HV.out.2 k hlt
      by_cases hbit : Bit (xs.getD k 0)
      · have hg2 : Hid (∀ j, j < k + 1 → Bit (xs.getD j 0)) := fun j hj => by
          by_cases e : j = k
          · subst e; exact hbit
          · exact hgood.out j (by omega)
        have HI := hid (fun q : World => isBit_yes _ hbit q)
        generalize xs.getD k 0 = X at *
        clear hbit
        go_wp2_with (go_at_call 116; refine (HI.out _).mono ?_; rintro e w' ⟨rfl, rfl⟩)
        go_round
        case rel => exact ⟨k + 1, by omega, by go_num, hg2⟩
        case measure => simp [intOf]; omega
      · have HI := hid (fun q : World => isBit_no _ hbit q)
        generalize xs.getD k 0 = X at *
        clear hbit
        go_wp2_with (go_at_call 116; refine (HI.out _).mono ?_; rintro e w' ⟨rfl, rfl⟩)
        go_ret
        exact ⟨rfl, rfl⟩
    · exfalso
      exact HA.out (fun j hj => hgood.out j (by omega))

set_option maxHeartbeats 800000 in
theorem specBits_yes (ao : Option Addr) (n cap : Nat) (xs : List Int) (w : World) (hn : n ≤ 1048576) (hv : View .i64 w ao n xs) (hall : ∀ j, j < n → Bit (xs.getD j 0)) :
    Calls Tryz.prog 75 #[.slice ao n cap] w fun e w' => e = .returned (.bool true) ∧ w = w' := by
  have HV := hid (hv)
  have HA := hid (hall)
  clear hv hall
  go_enter Tryz.func75, Tryz.ntmps75
  go_wp2
  go_loop [3] (fun i => ∃ k : Nat, k ≤ n ∧ i = .int .i64 k) (fun i => n - (intOf i).toNat)
  case atStart => exact ⟨0, by omega, rfl⟩
  case round =>
    obtain ⟨k, hk, rfl⟩ := hrel
    by_cases hlt : k < n
    · obtain ⟨b, off, rfl, hc⟩ := HV.out.2 k hlt
      have hbit := HA.out k hlt
      have hd : decide ((0 : Int) ≤ xs.getD k 0 ∧ xs.getD k 0 ≤ 1) = true := by rcases hbit with h | h <;> rw [h] <;> decide
      generalize xs.getD k 0 = X at *
      clear hbit
      go_wp2_with (go_at_call 20; refine (spec_in _ _ _ _).mono ?_; rw [hd]; rintro e w' ⟨rfl, rfl⟩)
      go_round
      case rel => exact ⟨k + 1, by omega, by go_num⟩
      case measure => simp [intOf]; omega
    · obtain rfl : k = n := by omega
      go_wp2
      go_ret
      exact ⟨rfl, rfl⟩

set_option maxHeartbeats 800000 in
theorem specBits_no (ao : Option Addr) (n cap : Nat) (xs : List Int) (w : World) (hn : n ≤ 1048576) (hv : View .i64 w ao n xs) (hall : ¬ ∀ j, j < n → Bit (xs.getD j 0)) :
    Calls Tryz.prog 75 #[.slice ao n cap] w fun e w' => e = .returned (.bool false) ∧ w = w' := by
  have HV := hid (hv)
  have HA := hid (hall)
  clear hv hall
  go_enter Tryz.func75, Tryz.ntmps75
  go_wp2
  go_loop [3] (fun i => ∃ k : Nat, k ≤ n ∧ i = .int .i64 k ∧ Hid (∀ j, j < k → Bit (xs.getD j 0))) (fun i => n - (intOf i).toNat)
  case atStart => exact ⟨0, by omega, rfl, fun j hj => by omega⟩
  case round =>
    obtain ⟨k, hk, rfl, hgood⟩ := hrel
    by_cases hlt : k < n
    · obtain ⟨b, off, rfl, hc⟩ := HV.out.2 k hlt
      by_cases hbit : Bit (xs.getD k 0)
      · have hg2 : Hid (∀ j, j < k + 1 → Bit (xs.getD j 0)) := fun j hj => by
          by_cases e : j = k
          · subst e; exact hbit
          · exact hgood.out j (by omega)
        have hd : decide ((0 : Int) ≤ xs.getD k 0 ∧ xs.getD k 0 ≤ 1) = true := by rcases hbit with h | h <;> rw [h] <;> decide
        generalize xs.getD k 0 = X at *
        clear hbit
        go_wp2_with (go_at_call 20; refine (spec_in _ _ _ _).mono ?_; rw [hd]; rintro e w' ⟨rfl, rfl⟩)
        go_round
        case rel => exact ⟨k + 1, by omega, by go_num, hg2⟩
        case measure => simp [intOf]; omega
      · have hd : decide ((0 : Int) ≤ xs.getD k 0 ∧ xs.getD k 0 ≤ 1) = false := by
          simp only [decide_eq_false_iff_not]
          intro h
          apply hbit
          unfold Bit
          omega
        generalize xs.getD k 0 = X at *
        clear hbit
        go_wp2_with (go_at_call 20; refine (spec_in _ _ _ _).mono ?_; rw [hd]; rintro e w' ⟨rfl, rfl⟩)
        go_ret
        exact ⟨rfl, rfl⟩
    · exfalso
      exact HA.out (fun j hj => hgood.out j (by omega))

/-- The number of c bits from place s on. -/
def num (b : Nat → Int) (s : Nat) : Nat → Int
  | 0 => 0
  | c + 1 => 2 * num b s c + b (s + c)

theorem num_bd (b : Nat → Int) (hb : ∀ j, Bit (b j)) (s : Nat) : ∀ c, 0 ≤ num b s c ∧ num b s c < 2 ^ c
  | 0 => by simp [num]
  | c + 1 => by
    have h := num_bd b hb s c
    have e : (2 : Int) ^ (c + 1) = 2 * 2 ^ c := by rw [Int.pow_succ]; omega
    have hbit := hb (s + c)
    rw [e]
    simp only [num]
    rcases hbit with h2 | h2 <;> rw [h2] <;> omega

theorem pow2_mono (t : Nat) : ∀ d, (2 : Int) ^ t ≤ 2 ^ (t + d)
  | 0 => Int.le_refl _
  | d + 1 => by
    have h := pow2_mono t d
    have e : (2 : Int) ^ (t + (d + 1)) = 2 * 2 ^ (t + d) := by rw [← Nat.add_assoc, Int.pow_succ]; omega
    have p : (0 : Int) < 2 ^ t := Int.pow_pos (by decide)
    omega

theorem num_le (b : Nat → Int) (hb : ∀ j, Bit (b j)) (s c m : Nat) (h : c ≤ m) : num b s c < 2 ^ m := by
  have h1 := num_bd b hb s c
  have h2 := pow2_mono c (m - c)
  rw [show c + (m - c) = m by omega] at h2
  omega

/-- The bits of a list; 1 behind its end. -/
def pad (xs : List Int) (j : Nat) : Int := if j < xs.length then xs.getD j 0 else 1
theorem pad_in (xs : List Int) (j : Nat) (h : j < xs.length) : pad xs j = xs.getD j 0 := by unfold pad; rw [if_pos h]
theorem pad_out (xs : List Int) (j : Nat) (h : ¬ j < xs.length) : pad xs j = 1 := by unfold pad; rw [if_neg h]
theorem pad_bit (xs : List Int) (h : ∀ j, j < xs.length → Bit (xs.getD j 0)) (j : Nat) : Bit (pad xs j) := by
  unfold pad
  split
  · exact h j (by assumption)
  · exact .inr rfl

/-- The writer: its word, how many bits it holds, what has been written. -/
def Wr (w : World) (B : Nat) (x h : Int) (v : Value) : Prop := w.heap[B]? = some (.cells #[.int .u32 x, .int .i64 h, v] 129 (0, 0))

theorem Wr.cells {w : World} {B : Nat} {x h : Int} {v : Value} (hw : Wr w B x h v) :
    w.cell? ⟨B, 0, none⟩ = some (.int .u32 x) ∧ w.cell? ⟨B, 1, none⟩ = some (.int .i64 h) ∧ w.cell? ⟨B, 2, none⟩ = some v ∧ w.frozen? ⟨B, 0, none⟩ = false ∧ w.frozen? ⟨B, 1, none⟩ = false ∧ w.frozen? ⟨B, 2, none⟩ = false := by
  unfold Wr at hw
  simp [World.cell?, World.frozen?, hw]

theorem Wr.set0 {w : World} {B : Nat} {x h y : Int} {v : Value} (hw : Wr w B x h v) : Wr (w.setCell ⟨B, 0, none⟩ (.int .u32 y)) B y h v := heap_setCell_same w B 0 _ 129 _ hw
theorem Wr.set1 {w : World} {B : Nat} {x h y : Int} {v : Value} (hw : Wr w B x h v) : Wr (w.setCell ⟨B, 1, none⟩ (.int .i64 y)) B x y v := heap_setCell_same w B 1 _ 129 _ hw
theorem Wr.set2 {w : World} {B : Nat} {x h : Int} {v u : Value} (hw : Wr w B x h v) : Wr (w.setCell ⟨B, 2, none⟩ u) B x h u := heap_setCell_same w B 2 _ 129 _ hw

theorem or_bit (x b : Int) (h0 : 0 ≤ x) (h1 : x < 2147483648) (hb : Bit b) : bits .or .u32 (x * 2) b = 2 * x + b := by
  rw [bits_join .u32 32 (by decide) (fun n h0 h1 => by rw [IntKind.wrap_u32]; omega) 1 (x * 2) b (by omega) (by omega) (by omega) (by rcases hb with h | h <;> omega) (by rcases hb with h | h <;> omega) (by rcases hb with h | h <;> omega)]
  omega

set_option maxHeartbeats 800000 in
/-- A bit is put where there is room for it. -/
theorem put_room (B : Nat) (x h b : Int) (v : Value) (w : World) (hw : Wr w B x h v) (h0 : 0 ≤ h) (h1 : h < 32) (x0 : 0 ≤ x) (x1 : x < 2147483648) (hb : Bit b) :
    Calls Tryz.prog 117 #[.pointer (some ⟨B, 0, none⟩), .int .i64 b] w fun e w' => e = .returned (.tuple #[]) ∧ w' = (w.setCell ⟨B, 0, none⟩ (.int .u32 (2 * x + b))).setCell ⟨B, 1, none⟩ (.int .i64 (h + 1)) := by
  obtain ⟨c0, c1, c2, f0, f1, f2⟩ := hw.cells
  have hq : (h == 32) = false := by simp; omega
  have ho := or_bit x b x0 x1 hb
  have b0 : 0 ≤ b := by rcases hb with h | h <;> omega
  have b1 : b ≤ 1 := by rcases hb with h | h <;> omega
  have HW := hid (hw)
  clear hb hw
  go_enter Tryz.func117, Tryz.ntmps117
  go_wp2

  go_end0
  exact ⟨rfl, rfl⟩
end Go.Proofs.YtnnakmgngkpghaaGreat

/- Contracts of the small functions over blocks: their size, their copy, their comparison, and BlockOk of the program and of the specification. -/
namespace Go.Proofs.YtnnakmgngkpghaaGreat
open Go.RowKit
set_option linter.unusedVariables false

/-- What is left of a measure when n are taken; -1 when it is not enough. -/
def lft (l : Int) (n : Nat) : Int := if l - n < 0 then -1 else l - n
theorem szInts (ao : Option Addr) (n cap : Nat) (l : Int) (w : World) (hn : n ≤ 9223372036854775807) (h0 : 0 ≤ l) (h1 : l ≤ 1048576) :
    Calls Tryz.prog 56 #[.slice ao n cap, .int .i64 l] w fun e w' => e = .returned (.int .i64 (lft l n)) ∧ w = w' := by
  by_cases h : l - (n : Int) < 0
  · go_enter Tryz.func56, Tryz.ntmps56
    go_wp2
    go_ret
    exact ⟨ret_int (by unfold lft; rw [if_pos h]), rfl⟩
  · go_enter Tryz.func56, Tryz.ntmps56
    go_wp2
    go_ret
    exact ⟨ret_int (by unfold lft; rw [if_neg (by omega)]), rfl⟩

theorem Own.mono {w : World} {base base' : Nat} {e : TypeId} {k : IntKind} {v : Value} {xs : List Int} (h : Own w base e k v xs) (hb : base' ≤ base) : Own w base' e k v xs := by
  refine ⟨Nat.le_trans hb h.1, h.2.1, ?_⟩
  rcases h.2.2 with h0 | ⟨g, cap, cur, hv, hg, r⟩
  · exact .inl h0
  · exact .inr ⟨g, cap, cur, hv, Nat.le_trans hb hg, r⟩

/-- Block b holds a struct of two cells. -/
def Two (w : World) (b : Nat) (x y : Value) (t : TypeId) : Prop := w.heap[b]? = some (.cells #[x, y] t (0, 0))
theorem Two.cells {w : World} {b : Nat} {x y : Value} {t : TypeId} (h : Two w b x y t) :
    w.cell? ⟨b, 0, none⟩ = some x ∧ w.cell? ⟨b, 1, none⟩ = some y ∧ w.frozen? ⟨b, 0, none⟩ = false ∧ w.frozen? ⟨b, 1, none⟩ = false := by
  unfold Two at h
  simp [World.cell?, World.frozen?, h]
theorem Two.lt {w : World} {b : Nat} {x y : Value} {t : TypeId} (h : Two w b x y t) : b < w.heap.size := (Array.getElem?_eq_some_iff.1 h).1
theorem Two.new (w : World) (x y : Value) (t : TypeId) : Two (w.alloc (.cells #[x, y] t)) w.heap.size x y t := heap_alloc_new w _
theorem Two.below {w w' : World} {B b : Nat} {x y : Value} {t : TypeId} (h : Two w b x y t) (hb : Below B w w') (hB : b < B) : Two w' b x y t := (hb.block b hB).trans h
theorem Two.alloc {w : World} {b : Nat} {x y : Value} {t : TypeId} (h : Two w b x y t) (o : Obj) : Two (w.alloc o) b x y t := h.below ((Below.refl _ _).alloc (Nat.le_refl _) _) h.lt
theorem Two.set0 {w : World} {b : Nat} {x y : Value} {t : TypeId} (h : Two w b x y t) (u : Value) : Two (w.setCell ⟨b, 0, none⟩ u) b u y t := heap_setCell_same w b 0 _ t u h
theorem Two.set1 {w : World} {b : Nat} {x y : Value} {t : TypeId} (h : Two w b x y t) (u : Value) : Two (w.setCell ⟨b, 1, none⟩ u) b x u t := heap_setCell_same w b 1 _ t u h
theorem Two.other {w : World} {b c i : Nat} {x y : Value} {t : TypeId} (h : Two w b x y t) (hne : b ≠ c) (u : Value) : Two (w.setCell ⟨c, i, none⟩ u) b x y t := (Below.heap_setCell _ _ _ _ (fun e => hne (by rw [e]))).trans h


theorem szBlock (d : Int) (a0 : Option Addr) (n0 c0 : Nat) (l : Int) (w : World) (hn0 : n0 ≤ 9223372036854775807) (h0 : 0 ≤ l) (h1 : l ≤ 1048576) :
    Calls Tryz.prog 40 #[.agg #[.int .i64 d, .slice a0 n0 c0], .int .i64 l] w fun e w' => e = .returned (.int .i64 (lft l n0)) ∧ Below w.heap.size w w' := by
  have HS := hid (szInts a0 n0 c0 l (w.alloc (.cells #[.int .i64 d, .slice a0 n0 c0] 71)) hn0 h0 h1)
  by_cases h : l - (n0 : Int) < 0
  · have e0 : lft l n0 = -1 := by unfold lft; rw [if_pos h]
    rw [e0] at HS ⊢
    go_enter Tryz.func40, Tryz.ntmps40
    go_wp2_with fail
    refine HS.out.mono ?_
    rintro e w1 ⟨rfl, rfl⟩
    go_wp2
    go_ret
    exact ⟨rfl, (Below.refl _ _).alloc (Nat.le_refl _) _⟩
  · have e0 : lft l n0 = l - n0 := by unfold lft; rw [if_neg h]
    rw [e0] at HS ⊢
    go_enter Tryz.func40, Tryz.ntmps40
    go_wp2_with fail
    refine HS.out.mono ?_
    rintro e w1 ⟨rfl, rfl⟩
    go_wp2
    go_ret
    exact ⟨rfl, (Below.refl _ _).alloc (Nat.le_refl _) _⟩

/-- A block that is read. -/
def BV (w : World) (v : Value) (d : Int) (xs : List Int) : Prop :=
  ∃ a c, v = .agg #[.int .i64 d, .slice a xs.length c] ∧ View .i64 w a xs.length xs
theorem BV.below {w w' : World} {v : Value} {d : Int} {xs : List Int} (h : BV w v d xs) (hb : Below w.heap.size w w') : BV w' v d xs := by
  obtain ⟨a, c, rfl, h0⟩ := h
  exact ⟨a, c, rfl, h0.below (Nat.le_refl _) hb⟩
/-- A block that is the call's own. -/
def BOwn (w : World) (base : Nat) (v : Value) (d : Int) (xs : List Int) : Prop := ∃ va, v = .agg #[.int .i64 d, va] ∧ Own w base 3 .i64 va xs
theorem BOwn.bv {w : World} {base : Nat} {v : Value} {d : Int} {xs : List Int} (h : BOwn w base v d xs) : BV w v d xs := by
  obtain ⟨va, rfl, h0⟩ := h
  obtain ⟨a0, c0, rfl, v0⟩ := h0.view
  exact ⟨a0, c0, rfl, v0⟩
theorem BOwn.below {w w' : World} {base : Nat} {v : Value} {d : Int} {xs : List Int} (h : BOwn w base v d xs) (hb : Below w.heap.size w w') : BOwn w' base v d xs := by
  obtain ⟨va, rfl, h0⟩ := h
  exact ⟨va, rfl, h0.below hb⟩

set_option maxHeartbeats 800000 in
theorem toBlock (v : Value) (d : Int) (xs : List Int) (w : World) (h0 : xs.length ≤ 1048576) (hv : BV w v d xs) :
    Calls Tryz.prog 45 #[v] w fun e w' => ∃ v', e = .returned v' ∧ BOwn w' w.heap.size v' d xs ∧ Below w.heap.size w w' := by
  obtain ⟨a0, c0, rfl, hv0⟩ := hv
  have H0 := hid hv0
  clear hv0
  have t0 := Two.new w (.int .i64 d) (.slice a0 xs.length c0) 71
  have t1 := Two.new (w.alloc (.cells #[.int .i64 d, .slice a0 xs.length c0] 71)) (.int .i64 0) (.slice none 0 0) 65
  have t2 := Two.new ((w.alloc (.cells #[.int .i64 d, .slice a0 xs.length c0] 71)).alloc (.cells #[.int .i64 0, .slice none 0 0] 65)) (.int .i64 d) (.slice none 0 0) 65
  have V0 := hid ((t0.alloc (.cells #[.int .i64 0, .slice none 0 0] 65)).alloc (.cells #[.int .i64 d, .slice none 0 0] 65))
  have V1 := hid (t1.alloc (.cells #[.int .i64 d, .slice none 0 0] 65))
  have V2 := hid t2
  have BB := hid ((((Below.refl w.heap.size w).alloc (Nat.le_refl _) (.cells #[.int .i64 d, .slice a0 xs.length c0] 71)).alloc (by simp) (.cells #[.int .i64 0, .slice none 0 0] 65)).alloc (by simp; omega) (.cells #[.int .i64 d, .slice none 0 0] 65))
  simp only [World.size_alloc] at V1 V2
  clear t0 t1 t2
  go_enter Tryz.func45, Tryz.ntmps45
  go_wp2_with fail
  refine (toInts a0 xs.length c0 xs _ h0 (H0.out.below (Nat.le_refl _) BB.out)).mono ?_
  generalize ((w.alloc _).alloc _).alloc _ = wa at *
  rintro e w1 ⟨va, rfl, hown1, hb1⟩
  obtain ⟨ao, cap, rfl⟩ := hown1.shape
  have HO1 := hid hown1
  have U0 := hid (V0.out.below hb1 V0.out.lt)
  have U1 := hid (V1.out.below hb1 V1.out.lt)
  have U2 := hid (V2.out.below hb1 V2.out.lt)
  have BB1 := hid (BB.out.trans (hb1.mono BB.out.size))
  have T2lt : w.heap.size + 1 + 1 < wa.heap.size := V2.out.lt
  clear hown1 hb1 V0 V1 V2
  obtain ⟨q1, q2, q3, q4⟩ := U1.out.cells
  obtain ⟨q5, q6, q7, q8⟩ := U2.out.cells
  go_wp2
  refine bodyPost_ret (v := .agg #[.int .i64 d, .slice ao xs.length cap]) (by simp [results, Tryz.results45, go_sem, q1, q2]) rfl ⟨_, rfl, ⟨_, rfl, ?_⟩, ?_⟩
  · exact (((HO1.out.setCell_below (a := ⟨w.heap.size + 1 + 1, 1, none⟩) (by show w.heap.size + 1 + 1 < wa.heap.size; omega) _).setCell_below (a := ⟨w.heap.size + 1, 0, none⟩) (by show w.heap.size + 1 < wa.heap.size; omega) _).setCell_below (a := ⟨w.heap.size + 1, 1, none⟩) (by show w.heap.size + 1 < wa.heap.size; omega) _).mono (by omega)
  · exact ((BB1.out.setCell (p := ⟨w.heap.size + 1 + 1, 1, none⟩) (by show w.heap.size ≤ w.heap.size + 1 + 1; omega) _).setCell (p := ⟨w.heap.size + 1, 0, none⟩) (by show w.heap.size ≤ w.heap.size + 1; omega) _).setCell (p := ⟨w.heap.size + 1, 1, none⟩) (by show w.heap.size ≤ w.heap.size + 1; omega) _

set_option maxHeartbeats 800000 in
/-- Two blocks that read as the same numbers. -/
theorem eqBlock_same (v v' : Value) (d : Int) (xs : List Int) (w : World) (h0 : xs.length ≤ 1048576) (hv : BV w v d xs) (hv' : BV w v' d xs) :
    Calls Tryz.prog 50 #[v, v'] w fun e w' => e = .returned (.bool true) ∧ Below w.heap.size w w' := by
  obtain ⟨a0, c0, rfl, u0⟩ := hv
  obtain ⟨b0, d0, rfl, x0⟩ := hv'
  have B0 := hid (((Below.refl w.heap.size w).alloc (Nat.le_refl _) (.cells #[.int .i64 d, .slice a0 xs.length c0] 65)).alloc (by simp) (.cells #[.int .i64 d, .slice b0 xs.length d0] 65))
  have U0 := hid u0
  have X0 := hid x0
  clear u0 x0
  have hdd : (d != d) = false := by simp
  go_enter Tryz.func50, Tryz.ntmps50
  go_wp2_with fail
  refine (eqInts_same a0 b0 xs.length c0 d0 xs _ (by omega) (U0.out.below (Nat.le_refl _) B0.out) (X0.out.below (Nat.le_refl _) B0.out)).mono ?_
  generalize (w.alloc _).alloc _ = wa at *
  rintro e w1 ⟨rfl, hb1⟩
  have BB1 := hid (B0.out.trans (hb1.mono B0.out.size))
  clear hb1
  go_wp2
  go_ret
  exact ⟨rfl, BB1.out⟩

/-- A number that a block may have. -/
def inC (x : Int) : Bool := decide (-1023 ≤ x ∧ x ≤ 1023)
/-- The first k numbers are such. -/
def coefTo (xs : List Int) : Nat → Bool
  | 0 => true
  | k + 1 => coefTo xs k && inC (xs.getD k 0)
theorem coefTo_bad (xs : List Int) (k : Nat) (h : inC (xs.getD k 0) = false) : ∀ n, k < n → coefTo xs n = false
  | n + 1, hn => by
    rw [coefTo]
    by_cases e : k = n
    · subst e; rw [h, Bool.and_false]
    · rw [coefTo_bad xs k h n (by omega), Bool.false_and]
theorem coefTo_at (xs : List Int) : ∀ n, coefTo xs n = true → ∀ k, k < n → inC (xs.getD k 0) = true
  | n + 1, h, k, hk => by
    simp only [coefTo, Bool.and_eq_true] at h
    by_cases e : k = n
    · subst e; exact h.2
    · exact coefTo_at xs n h.1 k (by omega)
/-- The block is right. -/
def blkOk (d : Int) (xs : List Int) : Bool := inC d && (decide (xs.length = 63) && coefTo xs 63)

theorem isCoef_any (x : Int) (w : World) : Calls Tryz.prog 133 #[.int .i64 x] w fun e w' => e = .returned (.bool (inC x)) ∧ w = w' := by
  by_cases h1 : -1023 ≤ x <;> by_cases h2 : x ≤ 1023
  all_goals
    go_enter Tryz.func133, Tryz.ntmps133
    go_wp2
    go_ret
    exact ⟨by simp [inC, h1, h2], rfl⟩

set_option maxHeartbeats 1600000 in
theorem impl_blockOk (v : Value) (d : Int) (xs : List Int) (w : World) (hl : xs.length ≤ 1048576) (hv : BV w v d xs) :
    Calls Tryz.prog 126 #[v] w fun e w' => e = .returned (.bool (blkOk d xs)) ∧ Below w.heap.size w w' := by
  obtain ⟨a0, c0, rfl, u0⟩ := hv
  have HD := hid (isCoef_any d)
  have HB := hid ((Below.refl w.heap.size w).alloc (Nat.le_refl _) (.cells #[.int .i64 d, .slice a0 xs.length c0] 65))
  have HV := hid (u0.below (Nat.le_refl _) HB.out)
  clear u0
  cases hD : inC d with
  | false =>
    have hR : Hid (blkOk d xs = false) := hid (by unfold blkOk; rw [hD]; rfl)
    rw [hD] at HD
    go_enter Tryz.func126, Tryz.ntmps126
    go_wp2_with (go_at_call 133; refine (HD.out _).mono ?_; rintro e w1 ⟨rfl, rfl⟩)
    go_ret
    exact ⟨ret_bool hR.out.symm, HB.out⟩
  | true =>
    rw [hD] at HD
    by_cases h63 : xs.length = 63
    · have HBAD := hid (fun k hk h => coefTo_bad xs k h 63 hk)
      have hR : Hid (blkOk d xs = coefTo xs 63) := hid (by unfold blkOk; rw [hD, decide_eq_true h63]; rfl)
      have h63' : ((xs.length : Int) != 63) = false := by simp; omega
      rw [h63] at HV
      have HBX := hid HB.out
      rw [h63] at HBX
      go_enter Tryz.func126, Tryz.ntmps126
      go_wp2_with (go_at_call 133; refine (HD.out _).mono ?_; rintro e w1 ⟨rfl, rfl⟩)
      go_loop [18] (fun i => ∃ k : Nat, k ≤ 63 ∧ i = .int .i64 k ∧ Hid (coefTo xs k = true)) (fun i => 63 - (intOf i).toNat)
      case atStart => exact ⟨0, by omega, rfl, rfl⟩
      case round =>
        obtain ⟨k, hk, rfl, hap⟩ := hrel
        by_cases hlt : k < 63
        · obtain ⟨b, off, rfl, hc⟩ := HV.out.2 k hlt
          have HBK := hid (HBAD.out k hlt)
          have HST := hid (show coefTo xs (k + 1) = (coefTo xs k && inC (xs.getD k 0)) from rfl)
          have HI := hid (isCoef_any (xs.getD k 0))
          generalize xs.getD k 0 = X at *
          cases hX : inC X with
          | true =>
            rw [hX] at HI HST
            have HN := hid (show coefTo xs (k + 1) = true by rw [HST.out, hap.out]; rfl)
            clear HST HBK HBAD
            go_wp2_with (go_at_call 133; refine (HI.out _).mono ?_; rintro e w1 ⟨rfl, rfl⟩)
            go_round
            case rel => exact ⟨k + 1, by omega, by go_num, HN.out⟩
            case measure => simp [intOf]; omega
          | false =>
            rw [hX] at HI
            have HN := hid (HBK.out hX)
            clear HST HBK HBAD
            go_wp2_with (go_at_call 133; refine (HI.out _).mono ?_; rintro e w1 ⟨rfl, rfl⟩)
            go_ret
            exact ⟨ret_bool (by rw [hR.out, HN.out]), HBX.out⟩
        · obtain rfl : k = 63 := by omega
          go_wp2
          go_ret
          exact ⟨ret_bool (by rw [hR.out, hap.out]), HBX.out⟩
    · have hR : Hid (blkOk d xs = false) := hid (by unfold blkOk; rw [decide_eq_false h63, Bool.false_and, Bool.and_false])
      have h63' : ((xs.length : Int) != 63) = true := by simp; omega
      go_enter Tryz.func126, Tryz.ntmps126
      go_wp2_with (go_at_call 133; refine (HD.out _).mono ?_; rintro e w1 ⟨rfl, rfl⟩)
      go_ret
      exact ⟨ret_bool hR.out.symm, HB.out⟩

set_option maxHeartbeats 1600000 in
theorem spec_blockOk (v : Value) (d : Int) (xs : List Int) (w : World) (hl : xs.length ≤ 1048576) (hv : BV w v d xs) :
    Calls Tryz.prog 88 #[v] w fun e w' => e = .returned (.bool (blkOk d xs)) ∧ Below w.heap.size w w' := by
  obtain ⟨a0, c0, rfl, u0⟩ := hv
  have HD : Hid (∀ q, Calls Tryz.prog 20 #[.int .i64 d, .int .i64 (-1023), .int .i64 1023] q fun e w' => e = .returned (.bool (inC d)) ∧ q = w') := hid (fun q => spec_in d (-1023) 1023 q)
  have HB := hid ((Below.refl w.heap.size w).alloc (Nat.le_refl _) (.cells #[.int .i64 d, .slice a0 xs.length c0] 65))
  have HV := hid (u0.below (Nat.le_refl _) HB.out)
  clear u0
  cases hD : inC d with
  | false =>
    have hR : Hid (blkOk d xs = false) := hid (by unfold blkOk; rw [hD]; rfl)
    rw [hD] at HD
    go_enter Tryz.func88, Tryz.ntmps88
    go_wp2_with (go_at_call 20; refine (HD.out _).mono ?_; rintro e w1 ⟨rfl, rfl⟩)
    go_ret
    exact ⟨ret_bool hR.out.symm, HB.out⟩
  | true =>
    rw [hD] at HD
    by_cases h63 : xs.length = 63
    · have HBAD := hid (fun k hk h => coefTo_bad xs k h 63 hk)
      have hR : Hid (blkOk d xs = coefTo xs 63) := hid (by unfold blkOk; rw [hD, decide_eq_true h63]; rfl)
      have h63' : ((xs.length : Int) != 63) = false := by simp; omega
      have h63n : (63 : Int) ≤ (xs.length : Int) := by omega
      rw [h63] at HV
      have HBX := hid HB.out
      rw [h63] at HBX
      go_enter Tryz.func88, Tryz.ntmps88
      go_wp2_with (go_at_call 20; refine (HD.out _).mono ?_; rintro e w1 ⟨rfl, rfl⟩)
      go_loop [3] (fun i => ∃ k : Nat, k ≤ 63 ∧ i = .int .i64 k ∧ Hid (coefTo xs k = true)) (fun i => 63 - (intOf i).toNat)
      case atStart => exact ⟨0, by omega, rfl, rfl⟩
      case round =>
        obtain ⟨k, hk, rfl, hap⟩ := hrel
        by_cases hlt : k < 63
        · obtain ⟨b, off, rfl, hc⟩ := HV.out.2 k hlt
          have HBK := hid (HBAD.out k hlt)
          have HST := hid (show coefTo xs (k + 1) = (coefTo xs k && inC (xs.getD k 0)) from rfl)
          have HI : Hid (∀ q, Calls Tryz.prog 20 #[.int .i64 (xs.getD k 0), .int .i64 (-1023), .int .i64 1023] q fun e w' => e = .returned (.bool (inC (xs.getD k 0))) ∧ q = w') := hid (fun q => spec_in (xs.getD k 0) (-1023) 1023 q)
          have hlt' : (k : Int) < (xs.length : Int) := by omega
          generalize xs.getD k 0 = X at *
          cases hX : inC X with
          | true =>
            rw [hX] at HI HST
            have HN := hid (show coefTo xs (k + 1) = true by rw [HST.out, hap.out]; rfl)
            clear HST HBK HBAD
            go_wp2_with (go_at_call 20; refine (HI.out _).mono ?_; rintro e w1 ⟨rfl, rfl⟩)
            go_round
            case rel => exact ⟨k + 1, by omega, by go_num, HN.out⟩
            case measure => simp [intOf]; omega
          | false =>
            rw [hX] at HI
            have HN := hid (HBK.out hX)
            clear HST HBK HBAD
            go_wp2_with (go_at_call 20; refine (HI.out _).mono ?_; rintro e w1 ⟨rfl, rfl⟩)
            go_ret
            exact ⟨ret_bool (by rw [hR.out, HN.out]), HBX.out⟩
        · obtain rfl : k = 63 := by omega
          go_wp2
          go_ret
          exact ⟨ret_bool (by rw [hR.out, hap.out]), HBX.out⟩
    · have hR : Hid (blkOk d xs = false) := hid (by unfold blkOk; rw [decide_eq_false h63, Bool.false_and, Bool.and_false])
      have h63' : ((xs.length : Int) != 63) = true := by simp; omega
      go_enter Tryz.func88, Tryz.ntmps88
      go_wp2_with (go_at_call 20; refine (HD.out _).mono ?_; rintro e w1 ⟨rfl, rfl⟩)
      go_ret
      exact ⟨ret_bool hR.out.symm, HB.out⟩
end Go.Proofs.YtnnakmgngkpghaaGreat

/- Rows of blocks that are read; contracts of Shift, of the program and of the specification. -/
namespace Go.Proofs.YtnnakmgngkpghaaGreat
open Go.RowKit
set_option linter.unusedVariables false

/-- The j-th of some blocks. -/
def nth (L : List (Int × List Int)) (j : Nat) : Int × List Int := L.getD j (0, [])
/-- A row of blocks that is read: two cells a block. -/
def BRow (w : World) (ao : Option Addr) (L : List (Int × List Int)) : Prop :=
  ∀ j, j < L.length → ∃ b off a c, ao = some ⟨b, off, none⟩ ∧ w.cell? ⟨b, off + j * 2, none⟩ = some (.int .i64 (nth L j).1) ∧ w.cell? ⟨b, off + j * 2 + 1, none⟩ = some (.slice a (nth L j).2.length c) ∧ View .i64 w a (nth L j).2.length (nth L j).2
theorem BRow.below {w w' : World} {ao : Option Addr} {L : List (Int × List Int)} (h : BRow w ao L) (hb : Below w.heap.size w w') : BRow w' ao L := by
  intro j hj
  obtain ⟨b, off, a, c, h1, h2, h3, h4⟩ := h j hj
  exact ⟨b, off, a, c, h1, (hb.cell (p := ⟨b, off + j * 2, none⟩) (World.block_lt_of_cell? w _ h2)).trans h2, (hb.cell (p := ⟨b, off + j * 2 + 1, none⟩) (World.block_lt_of_cell? w _ h3)).trans h3, h4.below (Nat.le_refl _) hb⟩

/-- The first k blocks are right. -/
def oksTo (L : List (Int × List Int)) : Nat → Bool
  | 0 => true
  | k + 1 => oksTo L k && blkOk (nth L k).1 (nth L k).2
theorem oksTo_bad (L : List (Int × List Int)) (k : Nat) (h : blkOk (nth L k).1 (nth L k).2 = false) : ∀ n, k < n → oksTo L n = false
  | n + 1, hn => by
    rw [oksTo]
    by_cases e : k = n
    · subst e; rw [h, Bool.and_false]
    · rw [oksTo_bad L k h n (by omega), Bool.false_and]
theorem oksTo_at (L : List (Int × List Int)) : ∀ n, oksTo L n = true → ∀ k, k < n → blkOk (nth L k).1 (nth L k).2 = true
  | n + 1, h, k, hk => by
    simp only [oksTo, Bool.and_eq_true] at h
    by_cases e : k = n
    · subst e; exact h.2
    · exact oksTo_at L n h.1 k (by omega)
theorem blkOk_dc {d : Int} {xs : List Int} (h : blkOk d xs = true) : -1023 ≤ d ∧ d ≤ 1023 := by
  unfold blkOk at h
  simp only [Bool.and_eq_true] at h
  simpa [inC] using h.1
/-- What the Dc ahead of block k counts as. -/
def ahead (up : Bool) (L : List (Int × List Int)) (k : Nat) : Int := if up = true ∧ 0 < k then (nth L (k - 1)).1 else 0
/-- What is told of the first k blocks. -/
def shl (up : Bool) (L : List (Int × List Int)) : Nat → List Int
  | 0 => []
  | k + 1 => shl up L k ++ [(nth L k).1 - ahead up L k]
theorem shl_len (up : Bool) (L : List (Int × List Int)) : ∀ k, (shl up L k).length = k
  | 0 => rfl
  | k + 1 => by rw [shl, List.length_append, shl_len up L k]; rfl
theorem ahead_bd (up : Bool) (L : List (Int × List Int)) (k : Nat) (h : oksTo L k = true) : -1023 ≤ ahead up L k ∧ ahead up L k ≤ 1023 := by
  unfold ahead
  split
  · rename_i hc
    exact blkOk_dc (oksTo_at L k h (k - 1) (by omega))
  · omega
/-- What Shift answers. -/
def shR (up : Bool) (L : List (Int × List Int)) : List Int × Bool := if L.length ≤ 4000 ∧ oksTo L L.length = true then (shl up L L.length, true) else ([], false)
theorem shR_yes {up : Bool} {L : List (Int × List Int)} (h : L.length ≤ 4000) (h2 : oksTo L L.length = true) : shR up L = (shl up L L.length, true) := by unfold shR; rw [if_pos ⟨h, h2⟩]
theorem shR_no {up : Bool} {L : List (Int × List Int)} (h : ¬ (L.length ≤ 4000 ∧ oksTo L L.length = true)) : shR up L = ([], false) := by unfold shR; rw [if_neg h]
theorem shR_len (up : Bool) (L : List (Int × List Int)) : (shR up L).1.length ≤ 4000 := by
  unfold shR
  split
  · rename_i h
    show (shl up L L.length).length ≤ 4000
    rw [shl_len]
    exact h.1
  · simp

/-- 'out = append(out, y)': blocks of another type stay what they are. -/
theorem wpList_pushT {P : Program} {ops : Array Oper} {rest : List Oper} {o : Oper} {a : Act} {Q : Exit → Act → World → Prop} (w : World) (hgd : o.guard = none) (s x : Operand) (t : TypeId)
    (ho : o.op = .call { callee := .builtin .append, args := #[s, x], argTypes := #[t, t] })
    (base : Nat) (e : TypeId) (k : IntKind) (z : Int) (bytes : Nat) (ht : P.underlying t = some (.slice e)) (hinfo : (P.info? e).map (fun i => (i.zero, i.size, i.bytes)) = some (some (.int k z), 1, bytes))
    (v : Value) (xs : List Int) (hs : a.eval s = v) (hown : Own w base e k v xs) (y : Int) (hx : a.eval x = .slice (some ⟨w.heap.size, 0, none⟩) 1 1)
    (hlen : xs.length < 1000000000000) (hbytes : bytes ≤ 8)
    (h : ∀ v' w', Own w' base e k v' (xs ++ [y]) → Below base w w' → (∀ (g : Nat) (cur : Array Value) (tt : TypeId), tt ≠ e → w.heap[g]? = some (.cells cur tt (0, 0)) → w'.heap[g]? = some (.cells cur tt (0, 0))) → wpList P ops Q rest (a.put o.dst v') w') : wpList P ops Q (o :: rest) a (w.alloc (.cells #[.int k y] e)) := by
  obtain ⟨i, hi, hz0, hz1, hz2⟩ := info_parts hinfo
  have hb := hown.1
  have hlt := hown.2.lt
  have hmul : (xs.length + 1) * bytes ≤ (xs.length + 1) * 8 := Nat.mul_le_mul_left _ hbytes
  refine wpList_append_own _ hgd s x t ho base e i (.int k z) 1 bytes ht hi hz0 hz1 hz2 rfl (by decide) v xs.length _ hs (hown.2.alloc _) ⟨w.heap.size, 0, none⟩ 1 1 [.int k y] hx rfl ?_ ?_ (by unfold maxLen; omega) (by omega) (Nat.le_trans hb (by simp)) ?_
  · intro j u hj
    match j, hj with
    | 0, hj => simp at hj; subst hj; simp [Addr.add]
  · intro u hu; simp at hu; subst hu; rfl
  · intro v' w' hown' hgrow _
    refine h v' w' ⟨Nat.le_trans hb (Nat.le_trans (by simp) hgrow.size), ?_⟩ ?_ ?_
    · simpa using hown'
    · exact ((Below.refl base w).alloc hb _).grown hgrow (Nat.le_trans hb (by simp)) (fun g hg => (hlt g hg).1)
    · intro g cur tt htt hg
      have hglt : g < w.heap.size := (Array.getElem?_eq_some_iff.1 hg).1
      have h1 : (w.alloc (.cells #[.int k y] e)).heap[g]? = some (.cells cur tt (0, 0)) := (((Below.refl w.heap.size w).alloc (Nat.le_refl _) _).block g hglt).trans hg
      refine (hgrow.block g (Nat.lt_trans hglt (by simp)) ?_).trans h1
      intro eq
      rcases hown.2.2 with ⟨hv, _⟩ | ⟨g', cap, cur', hv, hg', hh, _⟩
      · subst hv; cases eq
      · subst hv
        have : g = g' := by simpa [Value.ownBlock] using eq
        subst this
        rw [hg] at hh
        cases hh
        exact htt rfl

set_option maxRecDepth 100000 in
set_option maxHeartbeats 1600000 in
theorem impl_shift (ao : Option Addr) (cap : Nat) (L : List (Int × List Int)) (up : Bool) (w : World) (hn : L.length ≤ 1048576) (hs : ∀ j, j < L.length → (nth L j).2.length ≤ 1048576) (hv : BRow w ao L) :
    Calls Tryz.prog 110 #[.slice ao L.length cap, .bool up] w fun e w' => ∃ v, e = .returned (.tuple #[v, .bool (shR up L).2]) ∧ Own w' w.heap.size 3 .i64 v (shR up L).1 ∧ Below w.heap.size w w' := by
  have HV := hid hv
  have HSZ := hid hs
  clear hv hs
  by_cases hl : (4000 : Int) < (L.length : Int)
  · rw [shR_no (fun h => by have := h.1; omega)]
    go_enter Tryz.func110, Tryz.ntmps110
    go_wp2_with fail
    go_ret2
    exact ⟨_, rfl, Own.empty _ _ _ _ (Nat.le_refl _), (Below.refl _ _).alloc (Nat.le_refl _) _⟩
  · have hl2 : L.length ≤ 4000 := by omega
    have HY := hid (fun h => shR_yes (up := up) hl2 h)
    have HN := hid (fun (h : oksTo L L.length = false) => shR_no (up := up) (L := L) (fun e => by rw [e.2] at h; exact Bool.noConfusion h))
    generalize shR up L = R at *
    go_enter Tryz.func110, Tryz.ntmps110
    go_wp2_with (at_make; refine wpList_mk0 w rfl _ _ 22 rfl w.heap.size 3 .i64 0 8 Tryz.underlying22 Tryz.info3 _ _ L.length rfl rfl (by omega) (by decide) (Nat.le_refl _) ?_)
    intro w0 ho0 hb0
    go_wp2_with fail
    go_loopw [6, 7, 19] (fun t a i wr => ∃ k : Nat, k ≤ L.length ∧ i = .int .i64 k ∧ a = .int .i64 (ahead up L k) ∧ Hid (oksTo L k = true) ∧ Hid (Own wr w.heap.size 3 .i64 t (shl up L k)) ∧ Hid (Below w.heap.size w wr)) (fun _ _ i _ => L.length - (intOf i).toNat)
    case atStart => exact ⟨0, by omega, rfl, val_int (by unfold ahead; rw [if_neg (by omega)]), rfl, ho0, hb0⟩
    case round =>
      obtain ⟨k, hk, rfl, rfl, hok, hown, hb⟩ := hrel
      by_cases hlt : k < L.length
      · obtain ⟨b, off, a, c, rfl, hc1, hc2, hvw⟩ := HV.out.below hb.out k hlt
        have hsk := HSZ.out k hlt
        have hlt' : (k : Int) < (L.length : Int) := by omega
        have habd := ahead_bd up L k hok.out
        have HST := hid (show shl up L (k + 1) = shl up L k ++ [(nth L k).1 - ahead up L k] from rfl)
        have HOK := hid (show oksTo L (k + 1) = (oksTo L k && blkOk (nth L k).1 (nth L k).2) from rfl)
        have HBAD := hid (fun h => oksTo_bad L k h L.length hlt)
        have HAH := hid (show ahead up L (k + 1) = if up = true then (nth L k).1 else 0 by
          unfold ahead
          cases up
          · rfl
          · rw [if_pos ⟨rfl, by omega⟩, if_pos rfl, Nat.add_sub_cancel])
        have hA := (Below.refl wr.heap.size wr).alloc (Nat.le_refl _) (.cells #[.int .i64 (nth L k).1, .slice a (nth L k).2.length c] 65)
        have HBO := hid (impl_blockOk (.agg #[.int .i64 (nth L k).1, .slice a (nth L k).2.length c]) (nth L k).1 (nth L k).2 (wr.alloc (.cells #[.int .i64 (nth L k).1, .slice a (nth L k).2.length c] 65)) hsk ⟨a, c, rfl, hvw.below (Nat.le_refl _) hA⟩)
        have HTW := hid (Two.new wr (.int .i64 (nth L k).1) (.slice a (nth L k).2.length c) 65)
        have HDC := hid (fun h => blkOk_dc (d := (nth L k).1) (xs := (nth L k).2) h)
        have hol := hid (shl_len up L k)
        have hol2 : (shl up L k).length < 1000000000000 := by rw [hol.out]; omega
        have hA2 := hid (hb.out.trans (hA.mono hb.out.size))
        have hO2 := hid (hown.out.below hA)
        generalize (nth L k).1 = D at *
        generalize (nth L k).2 = XS at *
        have HA1 := hid (show up = false → ahead up L k = 0 by intro e; unfold ahead; rw [if_neg (fun h => by rw [e] at h; exact Bool.noConfusion h.1)])
        generalize ahead up L k = AH at *
        clear hA hvw
        cases hB : blkOk D XS with
        | false =>
          have HNR := hid (HN.out (HBAD.out hB))
          rw [hB] at HBO
          clear HY HN HBAD HOK HST HAH HDC
          go_wp2_with fail
          refine HBO.out.mono ?_
          generalize wr.alloc (.cells #[.int .i64 D, .slice a XS.length c] 65) = wb at *
          rintro e w2 ⟨rfl, hb2⟩
          have B2 := hid (hA2.out.trans (hb2.mono hA2.out.size))
          have hs2 := B2.out.size
          clear hb2
          go_wp2_with fail
          go_ret2
          exact ⟨_, by rw [HNR.out]; rfl, by rw [HNR.out]; exact Own.empty _ _ _ _ hs2, B2.out.alloc hs2 _⟩
        | true =>
          have hdc := HDC.out hB
          have HOK2 := hid (show oksTo L (k + 1) = true by rw [HOK.out, hok.out, hB]; rfl)
          rw [hB] at HBO
          obtain ⟨d0, d1⟩ := hdc
          obtain ⟨e0, e1⟩ := habd
          clear HY HN HBAD HOK HDC
          go_wp2_with fail
          refine HBO.out.mono ?_
          generalize wr.alloc (.cells #[.int .i64 D, .slice a XS.length c] 65) = wb at *
          rintro e w2 ⟨rfl, hb2⟩
          have B2 := hid (hA2.out.trans (hb2.mono hA2.out.size))
          have T2 := hid (HTW.out.below hb2 HTW.out.lt)
          have O2 := hid (hO2.out.below hb2)
          clear hb2 hc1 hc2
          obtain ⟨q1, q2, q3, q4⟩ := T2.out.cells
          go_wp2_with (at_builtin; refine wpList_pushT _ rfl _ _ 22 rfl _ 3 .i64 0 8 Tryz.underlying22 Tryz.info3 _ _ rfl O2.out (D - AH) rfl hol2 (by decide) ?_)
          intro v3 w3 ho3 hb3 hk3
          have T3 : Two w3 wr.heap.size (.int .i64 D) (.slice a XS.length c) 65 := hk3 _ _ 65 (by decide) T2.out
          have HO3 := hid ho3
          have B3 := hid (B2.out.trans hb3)
          clear ho3 hb3 hk3 q1 q2 q3 q4
          obtain ⟨q1, q2, q3, q4⟩ := T3.cells
          have HQ := hid T3
          clear T3
          cases up with
          | true =>
            rw [if_pos rfl] at HAH
            go_wp2_with fail
            go_roundw
            case rel => exact ⟨k + 1, by omega, by go_num, val_int HAH.out.symm, HOK2.out, by rw [HST.out]; exact HO3.out, B3.out⟩
            case measure => simp [intOf]; omega
          | false =>
            have HA0 := hid (show AH = ahead false L (k + 1) by rw [HAH.out, HA1.out rfl]; rfl)
            go_wp2_with fail
            go_roundw
            case rel => exact ⟨k + 1, by omega, by go_num, val_int HA0.out, HOK2.out, by rw [HST.out]; exact HO3.out, B3.out⟩
            case measure => simp [intOf]; omega
      · obtain rfl : k = L.length := by omega
        have HR := hid (HY.out hok.out)
        obtain ⟨so, sc', hsv⟩ := hown.out.shape
        subst hsv
        go_wp2_with fail
        go_ret2
        exact ⟨_, by rw [HR.out]; rfl, by rw [HR.out]; exact hown.out, hb.out⟩

set_option maxRecDepth 100000 in
set_option maxHeartbeats 1600000 in
theorem spec_shift (ao : Option Addr) (cap : Nat) (L : List (Int × List Int)) (up : Bool) (w : World) (hn : L.length ≤ 1048576) (hs : ∀ j, j < L.length → (nth L j).2.length ≤ 1048576) (hv : BRow w ao L) :
    Calls Tryz.prog 68 #[.slice ao L.length cap, .bool up] w fun e w' => ∃ v, e = .returned (.tuple #[v, .bool (shR up L).2]) ∧ Own w' w.heap.size 3 .i64 v (shR up L).1 ∧ Below w.heap.size w w' := by
  have HV := hid hv
  have HSZ := hid hs
  clear hv hs
  by_cases hl : (4000 : Int) < (L.length : Int)
  · rw [shR_no (fun h => by have := h.1; omega)]
    go_enter Tryz.func68, Tryz.ntmps68
    go_wp2_with fail
    go_ret2
    exact ⟨_, rfl, Own.empty _ _ _ _ (Nat.le_refl _), (Below.refl _ _).alloc (Nat.le_refl _) _⟩
  · have hl2 : L.length ≤ 4000 := by omega
    have HY := hid (fun h => shR_yes (up := up) hl2 h)
    have HN := hid (fun (h : oksTo L L.length = false) => shR_no (up := up) (L := L) (fun e => by rw [e.2] at h; exact Bool.noConfusion h))
    generalize shR up L = R at *
    have HO0 := hid (Own.empty w 3 .i64 w.heap.size (Nat.le_refl _))
    have HB0 := hid ((Below.refl w.heap.size w).alloc (Nat.le_refl _) (.cells #[] 3))
    go_enter Tryz.func68, Tryz.ntmps68
    go_wp2_with fail
    generalize w.alloc (.cells #[] 3) = w0 at *
    go_loopw [6, 7] (fun t i wr => ∃ k : Nat, k ≤ L.length ∧ i = .int .i64 k ∧ Hid (oksTo L k = true) ∧ Hid (Own wr w.heap.size 3 .i64 t (shl up L k)) ∧ Hid (Below w.heap.size w wr)) (fun _ i _ => L.length - (intOf i).toNat)
    case atStart => exact ⟨0, by omega, rfl, rfl, HO0.out, HB0.out⟩
    case round =>
      obtain ⟨k, hk, rfl, hok, hown, hb⟩ := hrel
      by_cases hlt : k < L.length
      · obtain ⟨b, off, a, c, rfl, hc1, hc2, hvw⟩ := HV.out.below hb.out k hlt
        have hsk := HSZ.out k hlt
        have hlt' : (k : Int) < (L.length : Int) := by omega
        have habd := ahead_bd up L k hok.out
        have HST := hid (show shl up L (k + 1) = shl up L k ++ [(nth L k).1 - ahead up L k] from rfl)
        have HOK := hid (show oksTo L (k + 1) = (oksTo L k && blkOk (nth L k).1 (nth L k).2) from rfl)
        have HBAD := hid (fun h => oksTo_bad L k h L.length hlt)
        have HBO := hid (spec_blockOk (.agg #[.int .i64 (nth L k).1, .slice a (nth L k).2.length c]) (nth L k).1 (nth L k).2 wr hsk ⟨a, c, rfl, hvw⟩)
        have HDC := hid (fun h => blkOk_dc (d := (nth L k).1) (xs := (nth L k).2) h)
        have hol := hid (shl_len up L k)
        have hol2 : (shl up L k).length < 1000000000000 := by rw [hol.out]; omega
        have HC1 := hid (fun q (hq : Below wr.heap.size wr q) => (hq.cell (p := ⟨b, off + k * 2, none⟩) (World.block_lt_of_cell? wr _ hc1)).trans hc1)
        have HPRE := hid (fun (h : 0 < k) q (hq : Below wr.heap.size wr q) => (show q.cell? ⟨b, off + (k - 1) * 2, none⟩ = some (.int .i64 (nth L (k - 1)).1) from by
          obtain ⟨b', off', a', c', e', h1', _, _⟩ := HV.out.below hb.out (k - 1) (by omega)
          cases e'
          exact (hq.cell (p := ⟨b, off + (k - 1) * 2, none⟩) (World.block_lt_of_cell? wr _ h1')).trans h1'))
        have HAH1 := hid (fun (h : ¬ (up = true ∧ 0 < k)) => (show ahead up L k = 0 by unfold ahead; rw [if_neg h]))
        have HAH2 := hid (fun (h : up = true ∧ 0 < k) => (show ahead up L k = (nth L (k - 1)).1 by unfold ahead; rw [if_pos h]))
        have hpb := hid (fun (h : 0 < k) => blkOk_dc (oksTo_at L k hok.out (k - 1) (by omega)))
        generalize (nth L k).1 = D at *
        generalize (nth L k).2 = XS at *
        generalize ahead up L k = AH at *
        clear hvw
        cases hB : blkOk D XS with
        | false =>
          have HNR := hid (HN.out (HBAD.out hB))
          rw [hB] at HBO
          clear HY HN HBAD HOK HST HDC HC1 HPRE HAH1 HAH2 hpb
          go_wp2_with fail
          refine HBO.out.mono ?_
          rintro e w2 ⟨rfl, hb2⟩
          have B2 := hid (hb.out.trans (hb2.mono hb.out.size))
          have hs2 := B2.out.size
          clear hb2
          go_wp2_with fail
          go_ret2
          exact ⟨_, by rw [HNR.out]; rfl, by rw [HNR.out]; exact Own.empty _ _ _ _ hs2, B2.out.alloc hs2 _⟩
        | true =>
          have hdc := HDC.out hB
          have HOK2 := hid (show oksTo L (k + 1) = true by rw [HOK.out, hok.out, hB]; rfl)
          rw [hB] at HBO
          obtain ⟨d0, d1⟩ := hdc
          obtain ⟨e0, e1⟩ := habd
          clear HY HN HBAD HOK HDC
          go_wp2_with fail
          refine HBO.out.mono ?_
          rintro e w2 ⟨rfl, hb2⟩
          have B2 := hid (hb.out.trans (hb2.mono hb.out.size))
          have O2 := hid (hown.out.below hb2)
          have hq1 := HC1.out w2 hb2
          have HP2 := hid (fun h => HPRE.out h w2 hb2)
          clear hb2 hc1 hc2 HC1 HPRE
          by_cases hu : up = true ∧ 0 < k
          · obtain ⟨rfl, hk0⟩ := hu
            have hpc := HP2.out hk0
            have hbd := hpb.out hk0
            have HAE := hid (HAH2.out ⟨rfl, hk0⟩)
            have hk0' : (0 : Int) < (k : Int) := by omega
            obtain ⟨j, rfl⟩ : ∃ j, k = j + 1 := ⟨k - 1, by omega⟩
            simp only [Nat.add_sub_cancel] at hpc hbd HAE
            generalize (nth L j).1 = D0 at *
            have hdd := HAE.out
            subst hdd
            obtain ⟨f0, f1⟩ := hbd
            have hj1 : ((j + 1 : Nat) : Int) - 1 = (j : Int) := by omega
            have hj2 : (j : Int) < (L.length : Int) := by omega
            clear HAH1 HAH2 HP2 hpb HAE
            go_wp2_with (at_builtin; refine wpList_push _ rfl _ _ 22 rfl _ 3 .i64 0 8 Tryz.underlying22 Tryz.info3 _ _ rfl O2.out (D - AH) rfl hol2 (by decide) ?_)
            intro v3 w3 ho3 hb3
            go_wp2_with fail
            go_roundw
            case rel => exact ⟨j + 1 + 1, by omega, by go_num, HOK2.out, by rw [HST.out]; exact ho3, B2.out.trans hb3⟩
            case measure => simp [intOf]; omega
          · have HAE := hid (HAH1.out hu)
            have h0 := HAE.out
            subst h0
            cases up with
            | true =>
              have hk0 : ¬ (0 : Int) < (k : Int) := fun h => hu ⟨rfl, by omega⟩
              clear HAH1 HAH2 HP2 hpb HAE hu
              go_wp2_with (at_builtin; refine wpList_push _ rfl _ _ 22 rfl _ 3 .i64 0 8 Tryz.underlying22 Tryz.info3 _ _ rfl O2.out D rfl hol2 (by decide) ?_)
              intro v3 w3 ho3 hb3
              go_wp2_with fail
              go_roundw
              case rel => exact ⟨k + 1, by omega, by go_num, HOK2.out, by rw [HST.out, Int.sub_zero]; exact ho3, B2.out.trans hb3⟩
              case measure => simp [intOf]; omega
            | false =>
              clear HAH1 HAH2 HP2 hpb HAE hu
              go_wp2_with (at_builtin; refine wpList_push _ rfl _ _ 22 rfl _ 3 .i64 0 8 Tryz.underlying22 Tryz.info3 _ _ rfl O2.out D rfl hol2 (by decide) ?_)
              intro v3 w3 ho3 hb3
              go_wp2_with fail
              go_roundw
              case rel => exact ⟨k + 1, by omega, by go_num, HOK2.out, by rw [HST.out, Int.sub_zero]; exact ho3, B2.out.trans hb3⟩
              case measure => simp [intOf]; omega
      · obtain rfl : k = L.length := by omega
        have HR := hid (HY.out hok.out)
        obtain ⟨so, sc', hsv⟩ := hown.out.shape
        subst hsv
        go_wp2_with fail
        go_ret2
        exact ⟨_, by rw [HR.out]; rfl, by rw [HR.out]; exact hown.out, hb.out⟩
end Go.Proofs.YtnnakmgngkpghaaGreat
