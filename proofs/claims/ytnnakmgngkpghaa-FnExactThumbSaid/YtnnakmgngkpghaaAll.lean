/- The contract of the specification's list of all codes: a slice of slices. -/
import Derived.Test.YtnnakmgngkpghaaBook
namespace Go.Proofs.Ytnnakmgngkpghaa
open Go.RowKit Go.Maps
set_option linter.unusedVariables false

theorem Try.info22 : (Try.prog.info? 22).map (fun i => (i.zero, i.size, i.bytes)) = some (some (.slice none 0 0), 1, 24) := by kernel_rfl

/-- The slice v is the call's own and holds the slices vs. -/
def OwnS (w : World) (base : Nat) (v : Value) (vs : List Value) : Prop := base ≤ w.heap.size ∧ w.ownsRow base 22 1 v vs.length vs
/-- Blocks that hold no slices stay what they are. -/
def Keep3 (w w' : World) : Prop := ∀ (g : Nat) (cur : Array Value) (t : TypeId), t ≠ 22 → w.heap[g]? = some (.cells cur t (0, 0)) → w'.heap[g]? = some (.cells cur t (0, 0))
theorem Keep3.own {w w' : World} {base : Nat} {v : Value} {xs : List Int} (h : Keep3 w w') (hs : w.heap.size ≤ w'.heap.size) (ho : Own w base 3 .i64 v xs) : Own w' base 3 .i64 v xs := by
  refine ⟨Nat.le_trans ho.1 hs, ho.2.1, ?_⟩
  rcases ho.2.2 with h0 | ⟨g, cap, cur, hv, hg, hh, r⟩
  · exact .inl h0
  · exact .inr ⟨g, cap, cur, hv, hg, h g cur 3 (by decide) hh, r⟩

theorem OwnS.empty (w : World) (base : Nat) (hb : base ≤ w.heap.size) : OwnS (w.alloc (.cells #[] 22)) base (.slice (some ⟨w.heap.size, 0, none⟩) 0 0) [] :=
  ⟨Nat.le_trans hb (by simp), World.ownsRow_made w #[] 0 hb (by simp [maxLen]) rfl⟩
theorem OwnS.below {w w' : World} {base : Nat} {v : Value} {vs : List Value} (h : OwnS w base v vs) (hb : Below w.heap.size w w') : OwnS w' base v vs := by
  refine ⟨Nat.le_trans h.1 hb.size, h.2.1, ?_⟩
  rcases h.2.2 with h0 | ⟨g, cap, cur, hv, hg, hh, r⟩
  · exact .inl h0
  · exact .inr ⟨g, cap, cur, hv, hg, (hb.block g (Array.getElem?_eq_some_iff.1 hh).1).trans hh, r⟩
theorem OwnS.shape {w : World} {base : Nat} {v : Value} {vs : List Value} (h : OwnS w base v vs) : ∃ ao cap, v = .slice ao vs.length cap := by
  rcases h.2.2 with ⟨rfl, h0⟩ | ⟨g, cap, cur, rfl, _⟩
  · exact ⟨none, 0, by rw [h0]⟩
  · exact ⟨_, _, rfl⟩
theorem OwnS.cell {w : World} {base : Nat} {ao : Option Addr} {n c : Nat} {vs : List Value} (h : OwnS w base (.slice ao n c) vs) (j : Nat) (y : Value) (hj : vs[j]? = some y) :
    ∃ g, ao = some ⟨g, 0, none⟩ ∧ w.cell? ⟨g, j, none⟩ = some y := by
  obtain ⟨_, h⟩ := h
  rcases h.2 with ⟨hn, h0⟩ | ⟨g, cap, cur, hv, _⟩
  · have := (List.getElem?_eq_some_iff.1 hj).1
    omega
  · have ha : ao = some ⟨g, 0, none⟩ := by cases hv; rfl
    subst ha
    refine ⟨g, rfl, ?_⟩
    have := h.cells (g := g) (by simp [Value.ownBlock]) j y hj
    rw [Addr.add_lit, Nat.zero_add] at this
    exact this

/-- 'out = append(out, y)', y a slice laid in a new block of its own first. -/
theorem wpList_pushA {P : Program} {ops : Array Oper} {rest : List Oper} {o : Oper} {a : Act} {Q : Exit → Act → World → Prop} (w : World) (hgd : o.guard = none) (s x : Operand) (t : TypeId)
    (ho : o.op = .call { callee := .builtin .append, args := #[s, x], argTypes := #[t, t] })
    (base : Nat) (ht : P.underlying t = some (.slice 22)) (hinfo : (P.info? 22).map (fun i => (i.zero, i.size, i.bytes)) = some (some (.slice none 0 0), 1, 24))
    (v : Value) (vs : List Value) (hs : a.eval s = v) (hown : OwnS w base v vs) (ya : Option Addr) (yn yc : Nat) (hx : a.eval x = .slice (some ⟨w.heap.size, 0, none⟩) 1 1)
    (hlen : vs.length < 1000000000)
    (h : ∀ v' w', OwnS w' base v' (vs ++ [.slice ya yn yc]) → Keep3 w w' → Below base w w' → wpList P ops Q rest (a.put o.dst v') w') : wpList P ops Q (o :: rest) a (w.alloc (.cells #[.slice ya yn yc] 22)) := by
  obtain ⟨i, hi, hz0, hz1, hz2⟩ := info_parts hinfo
  have hb := hown.1
  have hlt := hown.2.lt
  refine wpList_append_own _ hgd s x t ho base 22 i (.slice none 0 0) 1 24 ht hi hz0 hz1 hz2 rfl (by decide) v vs.length _ hs (hown.2.alloc _) ⟨w.heap.size, 0, none⟩ 1 1 [.slice ya yn yc] hx rfl ?_ ?_ (by unfold maxLen; omega) (by omega) (Nat.le_trans hb (by simp)) ?_
  · intro j u hj
    match j, hj with
    | 0, hj => simp at hj; subst hj; simp [Addr.add]
  · intro u hu; simp at hu; subst hu; rfl
  · intro v' w' hown' hgrow _
    refine h v' w' ⟨Nat.le_trans hb (Nat.le_trans (by simp) hgrow.size), ?_⟩ ?_ ?_
    · simpa using hown'
    · intro g cur tt htt hg
      have hglt : g < w.heap.size := (Array.getElem?_eq_some_iff.1 hg).1
      have h1 : (w.alloc (.cells #[.slice ya yn yc] 22)).heap[g]? = some (.cells cur tt (0, 0)) := (((Below.refl w.heap.size w).alloc (Nat.le_refl _) _).block g hglt).trans hg
      refine (hgrow.block g (Nat.lt_trans hglt (by simp)) ?_).trans h1
      intro e
      rcases hown.2.2 with ⟨hv, _⟩ | ⟨g', cap, cur', hv, hg', hh, _⟩
      · subst hv; cases e
      · subst hv
        have : g = g' := by simpa [Value.ownBlock] using e
        subst this
        rw [hg] at hh
        cases hh
        exact htt rfl
    · exact ((Below.refl base w).alloc hb _).grown hgrow (Nat.le_trans hb (by simp)) (fun g hg => (hlt g hg).1)

/-- The bits of a key. -/
def bitsK (x : Nat × Int) : List Int := bl (rbX x.2 x.1) x.1

/-- The slices at v read as the codes of the keys K. -/
def AllAt (w : World) (base : Nat) (v : Value) (K : List (Nat × Int)) : Prop :=
  ∃ vs, vs.length = K.length ∧ OwnS w base v vs ∧ ∀ (p : Nat) (x : Nat × Int), K[p]? = some x → ∃ y, vs[p]? = some y ∧ Own w base 3 .i64 y (bitsK x)

theorem AllAt.snoc {w w' : World} {base : Nat} {v' : Value} {K : List (Nat × Int)} {x : Nat × Int} {vs : List Value} {y : Value} (hl : vs.length = K.length) (hk : Keep3 w w') (hs : w.heap.size ≤ w'.heap.size)
    (hel : ∀ (p : Nat) (x : Nat × Int), K[p]? = some x → ∃ y, vs[p]? = some y ∧ Own w base 3 .i64 y (bitsK x)) (hy : Own w base 3 .i64 y (bitsK x)) (ho : OwnS w' base v' (vs ++ [y])) : AllAt w' base v' (K ++ [x]) := by
  refine ⟨vs ++ [y], by simp [hl], ho, fun p z hp => ?_⟩
  by_cases h : p < K.length
  · rw [List.getElem?_append_left h] at hp
    obtain ⟨y0, h1, h2⟩ := hel p z hp
    exact ⟨y0, by rw [List.getElem?_append_left (by omega)]; exact h1, hk.own hs h2⟩
  · have hp2 : p = K.length := by
      have := (List.getElem?_eq_some_iff.1 hp).1
      simp at this
      omega
    subst hp2
    rw [List.getElem?_append_right (Nat.le_refl _)] at hp
    simp at hp
    subst hp
    refine ⟨y, by rw [← hl, List.getElem?_append_right (Nat.le_refl _)]; simp, hk.own hs hy⟩

set_option maxRecDepth 100000 in
set_option maxHeartbeats 6400000 in
theorem all_codes (v : Value) (cs ss : List Int) (w : World) (hr : rightC cs ss = true) (hv : CV w v cs ss) :
    Calls Try.prog 45 #[v] w fun e w' => ∃ v', e = .returned v' ∧ AllAt w' w.heap.size v' (keysTo cs 16) ∧ Below w.heap.size w w' := by
  obtain ⟨a0, c0, a1, c1, rfl, u0, u1⟩ := hv
  obtain ⟨⟨hl, hok, ht, hroom⟩, htold, hap⟩ := (right_iff cs ss).1 hr
  have HB := hid ((Below.refl w.heap.size w).alloc (Nat.le_refl _) (.cells #[.slice a0 cs.length c0, .slice a1 ss.length c1] 33))
  have HT := hid (Two.new w (.slice a0 cs.length c0) (.slice a1 ss.length c1) 33)
  have HU0 := hid u0
  have HOK := hid hok
  rw [hl] at HB HT HU0 ⊢
  clear u0 u1 hr hap hok
  go_enter Try.func45, Try.ntmps45
  have hwas : (w.alloc (.cells #[.slice a0 16 c0, .slice a1 ss.length c1] 33)).heap.size = w.heap.size + 1 := by simp
  go_wp2_with fail
  generalize w.alloc (.cells #[.slice a0 16 c0, .slice a1 ss.length c1] 33) = wa at *
  have HWAS := hid hwas
  clear hwas
  have hwa : w.heap.size ≤ wa.heap.size := HB.out.size
  go_loopw [3, 4, 5] (fun o c i wr => ∃ k : Nat, k ≤ 16 ∧ i = .int .i64 k ∧ c = .int .i64 (sc cs k) ∧ Hid (AllAt wr w.heap.size o (keysTo cs k)) ∧ Hid (Below w.heap.size w wr) ∧ Hid (Two wr w.heap.size (.slice a0 16 c0) (.slice a1 ss.length c1) 33)) (fun _ _ i _ => 16 - (intOf i).toNat)
  case atStart =>
    exact ⟨0, by omega, rfl, rfl, ⟨[], rfl, by rw [← HWAS.out]; exact OwnS.empty wa _ hwa, fun p x hp => by simp [keysTo] at hp⟩, HB.out.alloc hwa _, HT.out.alloc _⟩
  case round =>
    obtain ⟨i, hi, rfl, rfl, hall, hb, htwo⟩ := hrel
    by_cases hlt : i < 16
    · obtain ⟨b, off, rfl, hc⟩ := HU0.out.2 i hlt
      have hx := okTo_at cs 16 HOK.out i hlt
      obtain ⟨N, hN⟩ := Int.eq_ofNat_of_zero_le hx.1
      rw [hN] at hc hx
      have hlt' : (i : Int) < 16 := by omega
      have HFULL := hid (keysAt_full cs i N (by omega))
      have HSC := hid (show sc cs (i + 1) = (sc cs i + N) * 2 by rw [sc, hN])
      have hs0 := sc_nonneg cs HOK.out i (by omega)
      obtain ⟨hs2, hs1⟩ := sc_lt cs HOK.out hroom i hlt
      rw [hN] at hs1 hs2
      have HS2 := hid hs2
      have HA0 := hid (show AllAt wr w.heap.size _ (keysAt cs i 0) by rw [keysAt_zero]; exact hall.out)
      have hblt := World.block_lt_of_cell? w _ hc
      clear hN hs2 hall
      go_wp2_with fail
      go_loopw [3, 4, 6] (fun o c m wq => ∃ k : Nat, k ≤ N ∧ m = .int .i64 k ∧ c = .int .i64 (sc cs i + k) ∧ Hid (AllAt wq w.heap.size o (keysAt cs i k)) ∧ Hid (Below w.heap.size w wq) ∧ Hid (Two wq w.heap.size (.slice (some ⟨b, off, none⟩) 16 c0) (.slice a1 ss.length c1) 33)) (fun _ _ m _ => N - (intOf m).toNat)
      case atStart => exact ⟨0, by omega, rfl, by simp, HA0.out, hb.out, htwo.out⟩
      case round =>
        obtain ⟨k, hk, rfl, rfl, hall2, hb2, htwo2⟩ := hrel
        have hc2 : wr.cell? ⟨b, off + i, none⟩ = some (.int .i64 (N : Int)) := (hb2.out.cell (p := ⟨b, off + i, none⟩) hblt).trans hc
        obtain ⟨q1, q2, q3, q4⟩ := htwo2.out.cells
        have htlt := htwo2.out.lt
        by_cases hkN : k < N
        · have hkN' : (k : Int) < (N : Int) := by omega
          have HK1 := hid (keysAt_succ cs i k)
          have HNB := hid (spec_numBits (sc cs i + k) (i + 1) wr (by omega) (by omega) (by have := HS2.out; omega))
          obtain ⟨vs, hvl, howns, hels⟩ := hall2.out
          have HOS := hid howns
          have HEL := hid hels
          have hvl2 : vs.length < 1000000000 := by
            rw [hvl, keysAt, List.length_append, rowKeys_length]
            have h1 := keysTo_length cs i (okTo_le cs 16 i (by omega) HOK.out)
            have h2 := told_bounds cs i (okTo_le cs 16 i (by omega) HOK.out)
            omega
          have HVL := hid hvl
          generalize keysAt cs i k = K at *
          generalize sc cs i = Sc at *
          clear howns hels hvl hall2
          go_wp2_with fail
          refine HNB.out.mono ?_
          rintro e w1 ⟨y, rfl, hy, hb3⟩
          obtain ⟨yo, yc, rfl⟩ := hy.shape
          have HY := hid (show Own w1 w.heap.size 3 .i64 _ (bitsK (i + 1, Sc + (k : Int))) from hy.mono hb2.out.size)
          have hown1 := HOS.out.below hb3
          have HEL1 := hid (fun (p : Nat) (x : Nat × Int) (hp : K[p]? = some x) => (let ⟨y, h1, h2⟩ := HEL.out p x hp; (⟨y, h1, h2.below hb3⟩ : ∃ y, vs[p]? = some y ∧ Own w1 w.heap.size 3 .i64 y (bitsK x))))
          have HB3 := hid (hb2.out.trans (hb3.mono hb2.out.size))
          have T3 := hid (htwo2.out.below hb3 htlt)
          clear hy hb3 q1 q2 q3 q4 HEL HOS hc2
          go_wp2_with (at_builtin; refine wpList_pushA w1 rfl _ _ 77 rfl w.heap.size Try.underlying77 Try.info22 _ vs (by rfl) hown1 yo _ yc (by rfl) hvl2 ?_)
          intro v2 w2 hown2 hk3 hb4
          have hsz2 : w1.heap.size ≤ w2.heap.size := hb4.size
          have HA2 := hid (AllAt.snoc HVL.out hk3 hsz2 HEL1.out HY.out hown2)
          have HB4 := hid (HB3.out.trans hb4)
          have HH := T3.out
          clear hown1 hown2
          go_wp2
          go_roundw
          case rel =>
            refine ⟨k + 1, by omega, by go_num, by go_num, ?_, HB4.out, ?_⟩
            · rw [HK1.out]; exact HA2.out
            · exact hk3 _ _ 33 (by decide) T3.out
          case measure => simp [intOf]; omega
        · obtain rfl : k = N := by omega
          have HF2 := hid (show AllAt wr w.heap.size _ (keysTo cs (i + 1)) by rw [← HFULL.out]; exact hall2.out)
          clear hall2
          generalize sc cs i = Sc at *
          go_wp2
          go_roundw
          case rel => exact ⟨i + 1, by omega, by go_num, val_int (by rw [HSC.out, Int.mul_comm]), HF2.out, hb2.out, htwo2.out⟩
          case measure => simp [intOf]; omega
    · obtain rfl : i = 16 := by omega
      go_wp2
      go_ret
      exact ⟨_, rfl, hall.out, hb.out⟩
end Go.Proofs.Ytnnakmgngkpghaa
