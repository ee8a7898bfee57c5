/- The contract of the copy of a row of steps. -/
import Derived.Test.YtdlookcklkdonabStpH
namespace Go.Proofs.Ytdlookcklkdonab
open Go.RowKit
set_option linter.unusedVariables false

set_option maxHeartbeats 1600000 in
theorem toStep (d e : Int) (a0 : Option Addr) (c0 : Nat) (xs : List Int) (w : World) (h0 : xs.length ≤ 1048576) (hv : View .i64 w a0 xs.length xs) :
    Calls Try.prog 55 #[.agg #[.int .i64 d, .int .i64 e, .slice a0 xs.length c0]] w fun r w' => ∃ va, r = .returned (.agg #[.int .i64 d, .int .i64 e, va]) ∧ Own w' w.heap.size 3 .i64 va xs ∧ Below w.heap.size w w' := by
  have H0 := hid hv
  clear hv
  have t1 : Arr ((w.alloc (.cells #[.int .i64 d, .int .i64 e, .slice a0 xs.length c0] 70)).alloc (.cells #[.int .i64 0, .int .i64 0, .slice none 0 0] 67)) (w.heap.size + 1) #[.int .i64 0, .int .i64 0, .slice none 0 0] 67 := by
    have := heap_alloc_new (w.alloc (.cells #[.int .i64 d, .int .i64 e, .slice a0 xs.length c0] 70)) (.cells #[.int .i64 0, .int .i64 0, .slice none 0 0] 67)
    rw [World.size_alloc] at this
    exact this
  have t2 : Arr (((w.alloc (.cells #[.int .i64 d, .int .i64 e, .slice a0 xs.length c0] 70)).alloc (.cells #[.int .i64 0, .int .i64 0, .slice none 0 0] 67)).alloc (.cells #[.int .i64 d, .int .i64 e, .slice none 0 0] 67)) (w.heap.size + 1 + 1) #[.int .i64 d, .int .i64 e, .slice none 0 0] 67 := by
    have := heap_alloc_new ((w.alloc (.cells #[.int .i64 d, .int .i64 e, .slice a0 xs.length c0] 70)).alloc (.cells #[.int .i64 0, .int .i64 0, .slice none 0 0] 67)) (.cells #[.int .i64 d, .int .i64 e, .slice none 0 0] 67)
    rw [World.size_alloc, World.size_alloc] at this
    exact this
  have V1 := hid (t1.below ((Below.refl _ _).alloc (Nat.le_refl _) (.cells #[.int .i64 d, .int .i64 e, .slice none 0 0] 67)) t1.lt)
  have V2 := hid t2
  have BB := hid ((((Below.refl w.heap.size w).alloc (Nat.le_refl _) (.cells #[.int .i64 d, .int .i64 e, .slice a0 xs.length c0] 70)).alloc (by simp) (.cells #[.int .i64 0, .int .i64 0, .slice none 0 0] 67)).alloc (by simp; omega) (.cells #[.int .i64 d, .int .i64 e, .slice none 0 0] 67))
  clear t1 t2
  go_enter Try.func55, Try.ntmps55
  go_wp2_with fail
  refine (toInts a0 xs.length c0 xs _ h0 (H0.out.below (Nat.le_refl _) BB.out)).mono ?_
  generalize ((w.alloc _).alloc _).alloc _ = wa at *
  rintro r w1 ⟨va, rfl, hown1, hb1⟩
  obtain ⟨ao, cap, rfl⟩ := hown1.shape
  have HO1 := hid hown1
  have U1 := hid (V1.out.below hb1 V1.out.lt)
  have U2 := hid (V2.out.below hb1 V2.out.lt)
  have BB1 := hid (BB.out.trans (hb1.mono BB.out.size))
  have T2lt : w.heap.size + 1 + 1 < wa.heap.size := V2.out.lt
  clear hown1 hb1 V1 V2
  have q0 : w1.cell? ⟨w.heap.size + 1, 0, none⟩ = some (.int .i64 0) := (U1.out.cell 0).trans rfl
  have q1 : w1.cell? ⟨w.heap.size + 1, 1, none⟩ = some (.int .i64 0) := (U1.out.cell 1).trans rfl
  have q2 : w1.cell? ⟨w.heap.size + 1, 2, none⟩ = some (.slice none 0 0) := (U1.out.cell 2).trans rfl
  have q3 := U1.out.free 0
  have q4 := U1.out.free 1
  have q5 := U1.out.free 2
  have p0 : w1.cell? ⟨w.heap.size + 1 + 1, 0, none⟩ = some (.int .i64 d) := (U2.out.cell 0).trans rfl
  have p1 : w1.cell? ⟨w.heap.size + 1 + 1, 1, none⟩ = some (.int .i64 e) := (U2.out.cell 1).trans rfl
  have p2 : w1.cell? ⟨w.heap.size + 1 + 1, 2, none⟩ = some (.slice none 0 0) := (U2.out.cell 2).trans rfl
  have p3 := U2.out.free 2
  go_wp2
  refine bodyPost_ret (v := .agg #[.int .i64 d, .int .i64 e, .slice ao xs.length cap]) (by simp [results, Try.results55, go_sem, q0, q1, q2]) rfl ⟨_, rfl, ?_, ?_⟩
  · exact ((((HO1.out.setCell_below (a := ⟨w.heap.size + 1 + 1, 2, none⟩) (by show w.heap.size + 1 + 1 < wa.heap.size; omega) _).setCell_below (a := ⟨w.heap.size + 1, 0, none⟩) (by show w.heap.size + 1 < wa.heap.size; omega) _).setCell_below (a := ⟨w.heap.size + 1, 1, none⟩) (by show w.heap.size + 1 < wa.heap.size; omega) _).setCell_below (a := ⟨w.heap.size + 1, 2, none⟩) (by show w.heap.size + 1 < wa.heap.size; omega) _).mono (by omega)
  · exact (((BB1.out.setCell (p := ⟨w.heap.size + 1 + 1, 2, none⟩) (by show w.heap.size ≤ w.heap.size + 1 + 1; omega) _).setCell (p := ⟨w.heap.size + 1, 0, none⟩) (by show w.heap.size ≤ w.heap.size + 1; omega) _).setCell (p := ⟨w.heap.size + 1, 1, none⟩) (by show w.heap.size ≤ w.heap.size + 1; omega) _).setCell (p := ⟨w.heap.size + 1, 2, none⟩) (by show w.heap.size ≤ w.heap.size + 1; omega) _

/-- The first k steps of a row that is the call's own. -/
def SSTo (w : World) (g : Nat) (L : List (Int × Int × List Int)) (n k : Nat) : Prop :=
  ∃ arr : Array Value, Arr w g arr 67 ∧ arr.size = n * 3 ∧ ∀ j, j < k → arr[j * 3]? = some (.int .i64 (nthS L j).1) ∧ arr[j * 3 + 1]? = some (.int .i64 (nthS L j).2.1) ∧ ∃ y, arr[j * 3 + 2]? = some y ∧ Own w (g + 1) 3 .i64 y (nthS L j).2.2
theorem SSTo.below {w w' : World} {g : Nat} {L : List (Int × Int × List Int)} {n k : Nat} (h : SSTo w g L n k) (hb : Below w.heap.size w w') : SSTo w' g L n k := by
  obtain ⟨arr, h1, h2, h3⟩ := h
  refine ⟨arr, h1.below hb h1.lt, h2, fun j hj => ?_⟩
  obtain ⟨e0, e1, y, e2, e3⟩ := h3 j hj
  exact ⟨e0, e1, y, e2, e3.below hb⟩
theorem SSTo.srow {w : World} {g : Nat} {L : List (Int × Int × List Int)} {n : Nat} (h : SSTo w g L n L.length) : SRow w (some ⟨g, 0, none⟩) L := by
  obtain ⟨arr, h1, h2, h3⟩ := h
  intro j hj
  obtain ⟨e0, e1, y, e2, e3⟩ := h3 j hj
  obtain ⟨a, c, rfl, hv⟩ := e3.view
  exact ⟨g, 0, a, c, rfl, by rw [Nat.zero_add, h1.cell, e0], by rw [Nat.zero_add, h1.cell, e1], by rw [Nat.zero_add, h1.cell, e2], hv⟩
/-- The next step is stored. -/
theorem SSTo.step {w : World} {g : Nat} {L : List (Int × Int × List Int)} {n k : Nat} {y : Value} {base : Nat} (h : SSTo w g L n k) (hk : k < n) (hy : Own w base 3 .i64 y (nthS L k).2.2) (hg : g + 1 ≤ base) :
    SSTo (((w.setCell ⟨g, k * 3, none⟩ (.int .i64 (nthS L k).1)).setCell ⟨g, k * 3 + 1, none⟩ (.int .i64 (nthS L k).2.1)).setCell ⟨g, k * 3 + 2, none⟩ y) g L n (k + 1) := by
  obtain ⟨arr, h1, h2, h3⟩ := h
  have hkeep : ∀ {v : Value} {xs : List Int}, Own w (g + 1) 3 .i64 v xs → Own (((w.setCell ⟨g, k * 3, none⟩ (.int .i64 (nthS L k).1)).setCell ⟨g, k * 3 + 1, none⟩ (.int .i64 (nthS L k).2.1)).setCell ⟨g, k * 3 + 2, none⟩ y) (g + 1) 3 .i64 v xs := fun ho =>
    ((ho.setCell_below (a := ⟨g, k * 3, none⟩) (by show g < g + 1; omega) _).setCell_below (a := ⟨g, k * 3 + 1, none⟩) (by show g < g + 1; omega) _).setCell_below (a := ⟨g, k * 3 + 2, none⟩) (by show g < g + 1; omega) _
  refine ⟨_, ((h1.set (k * 3) _).set (k * 3 + 1) _).set (k * 3 + 2) _, by simp [h2], fun j hj => ?_⟩
  by_cases e : j = k
  · subst e
    refine ⟨?_, ?_, y, ?_, hkeep (hy.mono hg)⟩
    · rw [Array.getElem?_setIfInBounds_ne (by omega), Array.getElem?_setIfInBounds_ne (by omega), Array.getElem?_setIfInBounds_self_of_lt (by omega)]
    · rw [Array.getElem?_setIfInBounds_ne (by omega), Array.getElem?_setIfInBounds_self_of_lt (by simp; omega)]
    · rw [Array.getElem?_setIfInBounds_self_of_lt (by simp; omega)]
  · obtain ⟨e0, e1, y', e2, e3⟩ := h3 j (by omega)
    refine ⟨?_, ?_, y', ?_, hkeep e3⟩
    · rw [Array.getElem?_setIfInBounds_ne (by omega), Array.getElem?_setIfInBounds_ne (by omega), Array.getElem?_setIfInBounds_ne (by omega), e0]
    · rw [Array.getElem?_setIfInBounds_ne (by omega), Array.getElem?_setIfInBounds_ne (by omega), Array.getElem?_setIfInBounds_ne (by omega), e1]
    · rw [Array.getElem?_setIfInBounds_ne (by omega), Array.getElem?_setIfInBounds_ne (by omega), Array.getElem?_setIfInBounds_ne (by omega), e2]

/-- 'make([]Step, n)'. -/
theorem wpList_mkS {P : Program} {ops : Array Oper} {rest : List Oper} {o : Oper} {a : Act} {Q : Exit → Act → World → Prop} (w : World) (hgd : o.guard = none) (l c : Operand) (t : TypeId)
    (ho : o.op = Op.makeSlice t l c) (ht : P.underlying t = some (.slice 67)) (hinfo : (P.info? 67).map (fun i => (i.zero, i.size, i.bytes)) = some (some (.agg #[.int .i64 0, .int .i64 0, .slice none 0 0]), 3, 40))
    (kl kc : IntKind) (n : Nat) (hl : a.eval l = .int kl n) (hc : a.eval c = .int kc n) (hn : n ≤ 1000000000) (L : List (Int × Int × List Int))
    (h : ∀ w', SSTo w' w.heap.size L n 0 → Below w.heap.size w w' → wpList P ops Q rest (a.put o.dst (.slice (some ⟨w.heap.size, 0, none⟩) n n)) w') : wpList P ops Q (o :: rest) a w := by
  obtain ⟨i, hi, hz0, hz1, hz2⟩ := info_parts hinfo
  have hmul : i.bytes * n = 40 * n := by rw [hz2]
  refine wpList_make_full w hgd l c t ho w.heap.size 67 i (.agg #[.int .i64 0, .int .i64 0, .slice none 0 0]) 3 ht hi hz0 hz1 kl kc n n n hl hc rfl rfl (by omega) (by unfold maxLen; omega) (Nat.le_refl _) ?_
  intro w' hown hgrow
  refine h w' ?_ ((Below.refl w.heap.size w).grown hgrow (Nat.le_refl _) (fun _ hg => by cases hg))
  rcases hown.2 with ⟨hv, _⟩ | ⟨g, cap, cur, hv, hg, hh, hle, hcm, hsz, _⟩
  · cases hv
  · cases hv
    exact ⟨cur, hh, hsz, fun j hj => by omega⟩

set_option maxRecDepth 100000 in
set_option maxHeartbeats 1600000 in
theorem toStepS (ao : Option Addr) (cap : Nat) (L : List (Int × Int × List Int)) (w : World) (hn : L.length ≤ 1048576) (hs : ∀ j, j < L.length → (nthS L j).2.2.length ≤ 1048576) (hv : SRow w ao L) :
    Calls Try.prog 30 #[.slice ao L.length cap] w fun e w' => e = .returned (.slice (some ⟨w.heap.size, 0, none⟩) L.length L.length) ∧ SSTo w' w.heap.size L L.length L.length ∧ Below w.heap.size w w' := by
  have HV := hid hv
  have HS := hid hs
  clear hv hs
  go_enter Try.func30, Try.ntmps30
  go_wp2_with (at_make; refine wpList_mkS w rfl _ _ 35 rfl Try.underlying35 Try.info67 _ _ L.length rfl rfl (by omega) L ?_)
  intro w1 hb1 hbel1
  go_wp2_with fail
  go_loopw [4] (fun i wr => ∃ k : Nat, k ≤ L.length ∧ i = .int .i64 k ∧ Hid (SSTo wr w.heap.size L L.length k) ∧ Hid (Below w.heap.size w wr)) (fun i _ => L.length - (intOf i).toNat)
  case atStart => exact ⟨0, by omega, rfl, hb1, hbel1⟩
  case round =>
    obtain ⟨k, hk, rfl, hbs, hbr⟩ := hrel
    by_cases hlt : k < L.length
    · obtain ⟨b, off, a, c, rfl, hc1, hc2, hc3, hvw⟩ := HV.out.below hbr.out k hlt
      have hlt' : (k : Int) < (L.length : Int) := by omega
      have HTB := hid (toStep (nthS L k).1 (nthS L k).2.1 a c (nthS L k).2.2 wr (HS.out k hlt) hvw)
      have hglt : w.heap.size < wr.heap.size := by obtain ⟨arr, h1, _⟩ := hbs.out; exact h1.lt
      have HSTEP := hid (fun q (hq : SSTo q w.heap.size L L.length k) y (hy : Own q wr.heap.size 3 .i64 y (nthS L k).2.2) => hq.step hlt hy (by omega))
      generalize (nthS L k).1 = D at *
      generalize (nthS L k).2.1 = E at *
      generalize (nthS L k).2.2 = XS at *
      clear hvw
      go_wp2_with fail
      refine HTB.out.mono ?_
      rintro e w2 ⟨v2, rfl, ho2, hb2⟩
      obtain ⟨yo, yc, rfl⟩ := ho2.shape
      have HBS2 := hid (hbs.out.below hb2)
      have B2 := hid (hbr.out.trans (hb2.mono hbr.out.size))
      have HO2 := hid ho2
      clear ho2 hb2 hc1 hc2 hc3 HTB
      obtain ⟨arr, har, hasz, _⟩ := HBS2.out
      have hA := hid har
      have hl0 : k * 3 < arr.size := by omega
      have hl1 : k * 3 + 1 < arr.size := by omega
      have hl2 : k * 3 + 2 < arr.size := by omega
      have p0 : w2.cell? ⟨w.heap.size, k * 3, none⟩ = some arr[k * 3] := by rw [har.cell]; exact Array.getElem?_eq_getElem hl0
      have p1 : w2.cell? ⟨w.heap.size, k * 3 + 1, none⟩ = some arr[k * 3 + 1] := by rw [har.cell]; exact Array.getElem?_eq_getElem hl1
      have p2 : w2.cell? ⟨w.heap.size, k * 3 + 2, none⟩ = some arr[k * 3 + 2] := by rw [har.cell]; exact Array.getElem?_eq_getElem hl2
      have p3 := har.free (k * 3)
      have p4 := har.free (k * 3 + 1)
      have p5 := har.free (k * 3 + 2)
      generalize arr[k * 3] = Z0 at *
      generalize arr[k * 3 + 1] = Z1 at *
      generalize arr[k * 3 + 2] = Z2 at *
      clear har hasz hl0 hl1 hl2
      go_wp2_with fail
      go_roundw
      case rel => exact ⟨k + 1, by omega, by go_num, HSTEP.out w2 HBS2.out _ HO2.out, ((B2.out.setCell (p := ⟨w.heap.size, k * 3, none⟩) (Nat.le_refl _) _).setCell (p := ⟨w.heap.size, k * 3 + 1, none⟩) (Nat.le_refl _) _).setCell (p := ⟨w.heap.size, k * 3 + 2, none⟩) (Nat.le_refl _) _⟩
      case measure => simp [intOf]; omega
    · obtain rfl : k = L.length := by omega
      go_wp2_with fail
      go_ret
      exact ⟨rfl, hbs.out, hbr.out⟩
end Go.Proofs.Ytdlookcklkdonab
