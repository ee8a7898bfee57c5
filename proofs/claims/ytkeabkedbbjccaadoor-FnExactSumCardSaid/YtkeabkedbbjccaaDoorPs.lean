/- SumPad of the specification. -/
import Derived.Test.YtkeabkedbbjccaaDoorRp
import Derived.ArgAppend
import Derived.Laws.IdiomStrings
import Derived.Deep.RegionWith
namespace Go.Proofs.YtkeabkedbbjccaaDoor
open Go.RowKit
set_option linter.unusedVariables false

theorem Tryd.info5 : (Tryd.prog.info? 5).map (fun i => (i.zero, i.size, i.bytes)) = some (some (.int .u8 0), 1, 1) := by kernel_rfl
/-- The slice v is the call's own (its row lies from block 'base' on), holds the bytes xs, and what lies behind them up to its capacity can be written. -/
def OwnM (w : World) (base : Nat) (v : Value) (xs : List Int) : Prop :=
  ∃ g cap, v = .slice (some ⟨g, 0, none⟩) xs.length cap ∧ base ≤ g ∧ g < w.heap.size ∧ (∀ j u, (xs.map (Value.int .u8))[j]? = some u → w.cell? ⟨g, j, none⟩ = some u) ∧ (∀ j, j < cap → (w.cell? ⟨g, j, none⟩).isSome = true ∧ w.frozen? ⟨g, j, none⟩ = false)
theorem OwnM.below {w w' : World} {base B : Nat} {v : Value} {xs : List Int} (h : OwnM w base v xs) (hB : w.heap.size ≤ B) (hb : Below B w w') : OwnM w' base v xs := by
  obtain ⟨g, cap, hv, hg, hl, hc, hs⟩ := h
  refine ⟨g, cap, hv, hg, Nat.lt_of_lt_of_le hl hb.size, fun j u hj => (hb.cell (p := ⟨g, j, none⟩) (by show g < B; omega)).trans (hc j u hj), fun j hj => ?_⟩
  rw [hb.cell (p := ⟨g, j, none⟩) (by show g < B; omega), hb.frozen (p := ⟨g, j, none⟩) (by show g < B; omega)]
  exact hs j hj
theorem OwnM.drew {w : World} {base : Nat} {v : Value} {xs : List Int} (h : OwnM w base v xs) (n : Nat) : OwnM (w.drewN n) base v xs := h
theorem OwnM.ofOwn {w : World} {base : Nat} {v : Value} {xs : List Int} (h : Own w base 5 .u8 v xs) (h0 : 0 < xs.length) : OwnM w base v xs := by
  have hcell : ∀ j u, (xs.map (Value.int .u8))[j]? = some u → ∀ g, v.ownBlock = some g → w.cell? ⟨g, j, none⟩ = some u := fun j u hj g hg => by
    have := h.2.cells hg j u hj
    rw [Addr.add_lit, Nat.zero_add] at this
    exact this
  rcases h.2.2 with ⟨rfl, h1⟩ | ⟨g, cap, cur, rfl, hb, hh, hn, hm, hcs, ht⟩
  · omega
  · refine ⟨g, cap, rfl, hb, (Array.getElem?_eq_some_iff.1 hh).1, fun j u hj => hcell j u hj g rfl, fun j hj => ?_⟩
    constructor
    · rw [cell_of_row w g j _ 5 (0, 0) hh]
      have : j < cur.size := by omega
      simp [this]
    · exact frozen_of_row w g j _ 5 hh
/-- The bytes of a text as numbers. -/
def nums (s : ByteArray) : List Int := s.data.toList.map fun b => (b.toNat : Int)
theorem nums_len (s : ByteArray) : (nums s).length = s.size := by simp [nums]
theorem strOfNums_app (xs ys : List Int) : strOfNums (xs ++ ys) = strOfNums xs ++ strOfNums ys := by
  apply ByteArray.ext
  rw [ByteArray.data_append]
  apply Array.toList_inj.1
  rw [Array.toList_append, strOfNums_data, strOfNums_data, strOfNums_data, List.map_append]
theorem strOfNums_nums' (s : ByteArray) : strOfNums (nums s) = s := by
  apply ByteArray.ext
  apply Array.toList_inj.1
  rw [strOfNums_data]
  unfold nums
  rw [List.map_map]
  have : ((fun n : Int => UInt8.ofNat n.toNat) ∘ fun b : UInt8 => (b.toNat : Int)) = id := by
    funext b
    simp
  rw [this, List.map_id]
/-- '[]byte(s)'. -/
theorem ownM_conv (w : World) (s : ByteArray) : OwnM (w.drew.alloc (.cells (bytesRow s (grownCap w s.size 0 5)) 5 ((bytesRow s (grownCap w s.size 0 5)).size, (bytesRow s (grownCap w s.size 0 5)).size + 1))) w.heap.size (.slice (some ⟨w.heap.size, 0, none⟩) s.size (grownCap w s.size 0 5)) (nums s) := by
  refine ⟨w.heap.size, _, by rw [nums_len], Nat.le_refl _, by simp [World.alloc], fun j u hj => ?_, fun j hj => ?_⟩
  · have := World.cell?_alloc_mark w.drew (bytesRow s (grownCap w s.size 0 5)) 5 ((bytesRow s (grownCap w s.size 0 5)).size, (bytesRow s (grownCap w s.size 0 5)).size + 1) j
    refine this.trans ?_
    simp [nums] at hj
    obtain ⟨a, ha, rfl⟩ := hj
    obtain ⟨hjs, hja⟩ := Array.getElem?_eq_some_iff.1 ha
    rw [bytesRow_at s _ j hjs, hja]
  · have hsz : (bytesRow s (grownCap w s.size 0 5)).size = grownCap w s.size 0 5 := by
      have h1 := grownCap_ge w s.size 0 5
      have h2 : s.data.size = s.size := rfl
      unfold bytesRow
      rw [Array.size_append, Array.size_map, Array.size_replicate]
      omega
    constructor
    · have := World.cell?_alloc_mark w.drew (bytesRow s (grownCap w s.size 0 5)) 5 ((bytesRow s (grownCap w s.size 0 5)).size, (bytesRow s (grownCap w s.size 0 5)).size + 1) j
      refine (congrArg Option.isSome this).trans ?_
      have : j < (bytesRow s (grownCap w s.size 0 5)).size := by omega
      simp [this]
    · have := World.frozen?_alloc_mark w.drew (bytesRow s (grownCap w s.size 0 5)) 5 (bytesRow s (grownCap w s.size 0 5)).size ((bytesRow s (grownCap w s.size 0 5)).size + 1) j
      refine this.trans ?_
      have : decide ((bytesRow s (grownCap w s.size 0 5)).size ≤ j) = false := decide_eq_false (by omega)
      rw [this]
      rfl

/-- 'out = append(out, y)', y laid in a new block of its own first. -/
theorem wpList_pushM {ops : Array Oper} {rest : List Oper} {o : Oper} {a : Act} {Q : Exit → Act → World → Prop} (w : World) (hgd : o.guard = none) (s x : Operand)
    (ho : o.op = .call { callee := .builtin .append, args := #[s, x], argTypes := #[22, 22] })
    (base : Nat) (hbase : base ≤ w.heap.size) (v : Value) (xs : List Int) (hs : a.eval s = v) (hown : OwnM w base v xs) (y : Int) (hx : a.eval x = .slice (some ⟨w.heap.size, 0, none⟩) 1 1)
    (hlen : xs.length < 1000000000000)
    (h : ∀ v' w', OwnM w' base v' (xs ++ [y]) → Below base w w' → wpList Tryd.prog ops Q rest (a.put o.dst v') w') : wpList Tryd.prog ops Q (o :: rest) a (w.alloc (.cells #[.int .u8 y] 5)) := by
  obtain ⟨i, hi, hz0, hz1, hz2⟩ := info_parts Tryd.info5
  have ho2 := hown.below (Nat.le_refl _) ((Below.refl w.heap.size w).alloc (Nat.le_refl _) (.cells #[.int .u8 y] 5))
  obtain ⟨g, cap, rfl, hg, hl, hc, hsp⟩ := ho2
  have hgw : g < w.heap.size := by
    obtain ⟨g', cap', hv, _, hl', _⟩ := hown
    cases hv
    exact hl'
  have hb0 : Below base w (w.alloc (.cells #[.int .u8 y] 5)) := (Below.refl base w).alloc hbase _
  refine wpList_append_arg _ hgd s x 22 ho 5 i (.int .u8 0) 1 1 Tryd.underlying22 hi hz0 hz1 hz2 rfl (by decide) g 0 xs.length cap (xs.map (Value.int .u8)) hs (by simp) (fun j u hj => by rw [Nat.zero_add]; exact hc j u hj) ⟨w.heap.size, 0, none⟩ 1 1 [.int .u8 y] hx rfl ?_ ?_ ?_ (by unfold maxLen; omega) (by omega) ?_ ?_
  · intro j u hj
    match j, hj with
    | 0, hj => simp at hj; subst hj; simp [Addr.add]
  · intro u hu; simp at hu; subst hu; rfl
  · intro hr j hj
    simp at hj
    subst hj
    have := hsp xs.length (by omega)
    simpa using this
  · intro hr
    have e : (w.alloc (.cells #[.int .u8 y] 5)).setCells g (0 + xs.length * 1) [.int .u8 y] = (w.alloc (.cells #[.int .u8 y] 5)).setCell ⟨g, xs.length, none⟩ (.int .u8 y) := by
      rw [Nat.zero_add, Nat.mul_one]
      rfl
    rw [e]
    refine h _ _ ⟨g, cap, by simp, hg, by simpa [World.setCell] using hl, fun j u hj => ?_, fun j hj => ?_⟩ (hb0.setCell (p := ⟨g, xs.length, none⟩) hg _)
    · by_cases ej : j = xs.length
      · subst ej
        simp at hj
        subst hj
        have hsm := (hsp xs.length (by omega)).1
        obtain ⟨u0, hu0⟩ := Option.isSome_iff_exists.1 hsm
        exact World.cell?_setCell_same _ _ _ hu0
      · have hl2 := (List.getElem?_eq_some_iff.1 hj).1
        simp at hl2
        have hj' : (xs.map (Value.int .u8))[j]? = some u := by
          rw [List.map_append, List.getElem?_append_left (by rw [List.length_map]; omega)] at hj
          exact hj
        have hn : (⟨g, xs.length, none⟩ : Addr) ≠ ⟨g, j, none⟩ := fun e => ej (by cases e; rfl)
        exact (World.cell?_setCell_other _ _ _ _ hn).trans (hc j u hj')
    · rw [World.frozen?_setCell]
      refine ⟨?_, (hsp j hj).2⟩
      obtain ⟨u0, hu0⟩ := Option.isSome_iff_exists.1 (hsp j hj).1
      obtain ⟨v', hv'⟩ := cell?_setCell_some (p := ⟨g, xs.length, none⟩) (x := .int .u8 y) hu0
      rw [hv']
      rfl
  · intro hlt v' w' hown' hgrow
    have hO : Own w' (w.alloc (.cells #[.int .u8 y] 5)).heap.size 5 .u8 v' (xs ++ [y]) := ⟨hgrow.size, by simpa using hown'⟩
    have hM := OwnM.ofOwn hO (by simp)
    obtain ⟨g', cap', hv', hb', r⟩ := hM
    refine h v' w' ⟨g', cap', hv', Nat.le_trans hbase (Nat.le_trans (by simp) hb'), r⟩ (hb0.trans (Below.mono ⟨hgrow.os, hgrow.tape, hgrow.output, hgrow.size, fun k hk => hgrow.block k hk (by simp)⟩ (Nat.le_trans hbase (by simp))))
end Go.Proofs.YtkeabkedbbjccaaDoor
