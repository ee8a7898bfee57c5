/- The contract of the copy of a row of blocks. -/
import Derived.Test.YtnnakmgngkpghaaRows2
import Derived.OwnWalk
namespace Go.Proofs.Ytnnakmgngkpghaa
open Go.RowKit
set_option linter.unusedVariables false

theorem Try.info49 : (Try.prog.info? 49).map (fun i => (i.zero, i.size, i.bytes)) = some (some (.agg #[.int .i64 0, .slice none 0 0]), 2, 32) := by kernel_rfl

/-- The first k blocks of a row that is the call's own. -/
def BSTo (w : World) (g : Nat) (L : List (Int × List Int)) (n k : Nat) : Prop :=
  ∃ arr : Array Value, Arr w g arr 49 ∧ arr.size = n * 2 ∧ ∀ j, j < k → arr[j * 2]? = some (.int .i64 (nth L j).1) ∧ ∃ y, arr[j * 2 + 1]? = some y ∧ Own w (g + 1) 3 .i64 y (nth L j).2
theorem BSTo.below {w w' : World} {g : Nat} {L : List (Int × List Int)} {n k : Nat} (h : BSTo w g L n k) (hb : Below w.heap.size w w') : BSTo w' g L n k := by
  obtain ⟨arr, h1, h2, h3⟩ := h
  refine ⟨arr, h1.below hb h1.lt, h2, fun j hj => ?_⟩
  obtain ⟨e1, y, e2, e3⟩ := h3 j hj
  exact ⟨e1, y, e2, e3.below hb⟩
theorem BSTo.brow {w : World} {g : Nat} {L : List (Int × List Int)} {n : Nat} (h : BSTo w g L n L.length) : BRow w (some ⟨g, 0, none⟩) L := by
  obtain ⟨arr, h1, h2, h3⟩ := h
  intro j hj
  obtain ⟨e1, y, e2, e3⟩ := h3 j hj
  obtain ⟨a, c, rfl, hv⟩ := e3.view
  exact ⟨g, 0, a, c, rfl, by rw [Nat.zero_add, h1.cell, e1], by rw [Nat.zero_add, h1.cell, e2], hv⟩
/-- The next block is stored. -/
theorem BSTo.step {w : World} {g : Nat} {L : List (Int × List Int)} {n k : Nat} {y : Value} {base : Nat} (h : BSTo w g L n k) (hk : k < n) (hy : Own w base 3 .i64 y (nth L k).2) (hg : g + 1 ≤ base) :
    BSTo ((w.setCell ⟨g, k * 2, none⟩ (.int .i64 (nth L k).1)).setCell ⟨g, k * 2 + 1, none⟩ y) g L n (k + 1) := by
  obtain ⟨arr, h1, h2, h3⟩ := h
  refine ⟨_, (h1.set (k * 2) _).set (k * 2 + 1) _, by simp [h2], fun j hj => ?_⟩
  by_cases e : j = k
  · subst e
    refine ⟨?_, y, ?_, ?_⟩
    · rw [Array.getElem?_setIfInBounds_ne (by omega), Array.getElem?_setIfInBounds_self_of_lt (by omega)]
    · rw [Array.getElem?_setIfInBounds_self_of_lt (by simp; omega)]
    · exact ((hy.mono hg).setCell_below (a := ⟨g, j * 2, none⟩) (by show g < g + 1; omega) _).setCell_below (a := ⟨g, j * 2 + 1, none⟩) (by show g < g + 1; omega) _
  · obtain ⟨e1, y', e2, e3⟩ := h3 j (by omega)
    refine ⟨?_, y', ?_, ?_⟩
    · rw [Array.getElem?_setIfInBounds_ne (by omega), Array.getElem?_setIfInBounds_ne (by omega), e1]
    · rw [Array.getElem?_setIfInBounds_ne (by omega), Array.getElem?_setIfInBounds_ne (by omega), e2]
    · exact (e3.setCell_below (a := ⟨g, k * 2, none⟩) (by show g < g + 1; omega) _).setCell_below (a := ⟨g, k * 2 + 1, none⟩) (by show g < g + 1; omega) _

/-- 'make([]Block, n)'. -/
theorem wpList_mkB {P : Program} {ops : Array Oper} {rest : List Oper} {o : Oper} {a : Act} {Q : Exit → Act → World → Prop} (w : World) (hgd : o.guard = none) (l c : Operand) (t : TypeId)
    (ho : o.op = Op.makeSlice t l c) (ht : P.underlying t = some (.slice 49)) (hinfo : (P.info? 49).map (fun i => (i.zero, i.size, i.bytes)) = some (some (.agg #[.int .i64 0, .slice none 0 0]), 2, 32))
    (kl kc : IntKind) (n : Nat) (hl : a.eval l = .int kl n) (hc : a.eval c = .int kc n) (hn : n ≤ 1000000000) (L : List (Int × List Int))
    (h : ∀ w', BSTo w' w.heap.size L n 0 → Below w.heap.size w w' → wpList P ops Q rest (a.put o.dst (.slice (some ⟨w.heap.size, 0, none⟩) n n)) w') : wpList P ops Q (o :: rest) a w := by
  obtain ⟨i, hi, hz0, hz1, hz2⟩ := info_parts hinfo
  have hmul : i.bytes * n = 32 * n := by rw [hz2]
  refine wpList_make_full w hgd l c t ho w.heap.size 49 i (.agg #[.int .i64 0, .slice none 0 0]) 2 ht hi hz0 hz1 kl kc n n n hl hc rfl rfl (by omega) (by unfold maxLen; omega) (Nat.le_refl _) ?_
  intro w' hown hgrow
  refine h w' ?_ ((Below.refl w.heap.size w).grown hgrow (Nat.le_refl _) (fun _ hg => by cases hg))
  rcases hown.2 with ⟨hv, _⟩ | ⟨g, cap, cur, hv, hg, hh, hle, hcm, hsz, _⟩
  · cases hv
  · cases hv
    exact ⟨cur, hh, hsz, fun j hj => by omega⟩

set_option maxRecDepth 100000 in
set_option maxHeartbeats 1600000 in
theorem toBlockS (ao : Option Addr) (cap : Nat) (L : List (Int × List Int)) (w : World) (hn : L.length ≤ 1048576) (hs : ∀ j, j < L.length → (nth L j).2.length ≤ 1048576) (hv : BRow w ao L) :
    Calls Try.prog 17 #[.slice ao L.length cap] w fun e w' => e = .returned (.slice (some ⟨w.heap.size, 0, none⟩) L.length L.length) ∧ BSTo w' w.heap.size L L.length L.length ∧ Below w.heap.size w w' := by
  have HV := hid hv
  have HS := hid hs
  clear hv hs
  go_enter Try.func17, Try.ntmps17
  go_wp2_with (at_make; refine wpList_mkB w rfl _ _ 36 rfl Try.underlying36 Try.info49 _ _ L.length rfl rfl (by omega) L ?_)
  intro w1 hb1 hbel1
  go_wp2_with fail
  go_loopw [4] (fun i wr => ∃ k : Nat, k ≤ L.length ∧ i = .int .i64 k ∧ Hid (BSTo wr w.heap.size L L.length k) ∧ Hid (Below w.heap.size w wr)) (fun i _ => L.length - (intOf i).toNat)
  case atStart => exact ⟨0, by omega, rfl, hb1, hbel1⟩
  case round =>
    obtain ⟨k, hk, rfl, hbs, hbr⟩ := hrel
    by_cases hlt : k < L.length
    · obtain ⟨b, off, a, c, rfl, hc1, hc2, hvw⟩ := HV.out.below hbr.out k hlt
      have hlt' : (k : Int) < (L.length : Int) := by omega
      have HTB := hid (toBlock (.agg #[.int .i64 (nth L k).1, .slice a (nth L k).2.length c]) (nth L k).1 (nth L k).2 wr (HS.out k hlt) ⟨a, c, rfl, hvw⟩)
      have hglt : w.heap.size < wr.heap.size := by obtain ⟨arr, h1, _⟩ := hbs.out; exact h1.lt
      have HSTEP := hid (fun q (hq : BSTo q w.heap.size L L.length k) y (hy : Own q wr.heap.size 3 .i64 y (nth L k).2) => hq.step hlt hy (by omega))
      generalize (nth L k).1 = D at *
      generalize (nth L k).2 = XS at *
      clear hvw
      go_wp2_with fail
      refine HTB.out.mono ?_
      rintro e w2 ⟨v2, rfl, ⟨va, rfl, ho2⟩, hb2⟩
      obtain ⟨yo, yc, rfl⟩ := ho2.shape
      have HBS2 := hid (hbs.out.below hb2)
      have B2 := hid (hbr.out.trans (hb2.mono hbr.out.size))
      have HO2 := hid ho2
      clear ho2 hb2 hc1 hc2 HTB
      obtain ⟨arr, har, hasz, _⟩ := HBS2.out
      have hA := hid har
      have hl0 : k * 2 < arr.size := by omega
      have hl1 : k * 2 + 1 < arr.size := by omega
      have p0 : w2.cell? ⟨w.heap.size, k * 2, none⟩ = some arr[k * 2] := by rw [har.cell]; exact Array.getElem?_eq_getElem hl0
      have p1 : w2.cell? ⟨w.heap.size, k * 2 + 1, none⟩ = some arr[k * 2 + 1] := by rw [har.cell]; exact Array.getElem?_eq_getElem hl1
      have p2 := har.free (k * 2)
      have p3 := har.free (k * 2 + 1)
      generalize arr[k * 2] = Z0 at *
      generalize arr[k * 2 + 1] = Z1 at *
      clear har hasz hl0 hl1
      go_wp2_with fail
      go_roundw
      case rel => exact ⟨k + 1, by omega, by go_num, HSTEP.out w2 HBS2.out _ HO2.out, (B2.out.setCell (p := ⟨w.heap.size, k * 2, none⟩) (Nat.le_refl _) _).setCell (p := ⟨w.heap.size, k * 2 + 1, none⟩) (Nat.le_refl _) _⟩
      case measure => simp [intOf]; omega
    · obtain rfl : k = L.length := by omega
      go_wp2_with fail
      go_ret
      exact ⟨rfl, hbs.out, hbr.out⟩
end Go.Proofs.Ytnnakmgngkpghaa
