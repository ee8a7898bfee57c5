/- bestLengths: what stands in a round. -/
import Derived.Test.YtmdmolofiblbmaaAw
import Derived.Test.YtmdmolofiblbmaaHq
namespace Go.Proofs.Ytmdmolofiblbmaa
open Go.RowKit
set_option linter.unusedVariables false

/-- A row of ints stays where blocks of other types turn. -/
theorem Own.ef {w w' : World} {C : Nat} {base : Nat} {v : Value} {xs : List Int} {l : List Value} {t : TypeId} (h : Own w base 3 .i64 v xs) (hb : Blk w C l t) (ht : t ≠ 3) (he : Ef C w w') : Own w' base 3 .i64 v xs := by
  obtain ⟨h1, h2, h3⟩ := h
  refine ⟨Nat.le_trans h1 he.size, h2, ?_⟩
  rcases h3 with h0 | ⟨g, cap, cur, hv, hg, hh, r⟩
  · exact .inl h0
  · refine .inr ⟨g, cap, cur, hv, hg, (he.block g (Array.getElem?_eq_some_iff.1 hh).1 (fun e => ?_)).trans hh, r⟩
    have e' := Option.some.inj e
    subst e'
    unfold Blk at hb
    rw [hh] at hb
    have := Option.some.inj hb
    simp at this
    exact ht this.2.symm
theorem Own.ef2 {w w' : World} {B C : Nat} {base : Nat} {v : Value} {xs : List Int} {l m : List Value} {t u : TypeId} (h : Own w base 3 .i64 v xs) (hb : Blk w B l t) (ht : t ≠ 3) (hc : Blk w C m u) (hu : u ≠ 3) (he : Ef2 B C w w') : Own w' base 3 .i64 v xs := by
  obtain ⟨h1, h2, h3⟩ := h
  refine ⟨Nat.le_trans h1 he.size, h2, ?_⟩
  rcases h3 with h0 | ⟨g, cap, cur, hv, hg, hh, r⟩
  · exact .inl h0
  · refine .inr ⟨g, cap, cur, hv, hg, (he.block g (Array.getElem?_eq_some_iff.1 hh).1 (fun e => ?_) (fun e => ?_)).trans hh, r⟩
    · subst e
      unfold Blk at hb
      rw [hh] at hb
      have := Option.some.inj hb
      simp at this
      exact ht this.2.symm
    · subst e
      unfold Blk at hc
      rw [hh] at hc
      have := Option.some.inj hc
      simp at this
      exact hu this.2.symm
theorem Ef.ofBelow {C B : Nat} {a w : World} (hb : Below B a w) (hB : a.heap.size ≤ B) : Ef C a w := ⟨hb.os, hb.tape, hb.output, hb.size, fun k hk _ => hb.block k (by omega)⟩
theorem Ef2.ef {T G : Nat} {a b c : World} (h : Ef G a b) (k : Ef2 T G b c) (hT : a.heap.size ≤ T) : Ef G a c :=
  ⟨k.os.trans h.os, k.tape.trans h.tape, k.output.trans h.output, Nat.le_trans h.size k.size, fun g hg hne => (k.block g (Nat.lt_of_lt_of_le hg h.size) (by omega) (fun e => hne (by rw [e]))).trans (h.block g hg hne)⟩
theorem Blk.set3 {w : World} {b : Nat} {x y z : Value} {t : TypeId} (h : Blk w b [x, y, z] t) (p q r : Value) : Blk (((w.setCell ⟨b, 0, none⟩ p).setCell ⟨b, 1, none⟩ q).setCell ⟨b, 2, none⟩ r) b [p, q, r] t := ((h.set 0 p).set 1 q).set 2 r
/-- How many trees a heap has. -/
def lenAt (w : World) (T : Nat) : Nat := match w.cell? ⟨T, 0, none⟩ with
  | some (.slice _ n _) => n
  | _ => 0
theorem HpM.lenAt {w : World} {T G c : Nat} {E : List TE} (h : HpM w T G c E) : lenAt w T = E.length := by
  unfold Ytmdmolofiblbmaa.lenAt
  rw [h.1.cell (i := 0) rfl]

/-- What stands in a round: the heap's variable, its row, the answer, the lengths. -/
structure Stt (w wr : World) (G c : Nat) (E : List TE) (lens : List Int) : Prop where
  hp : HpM wr w.heap.size G c E
  ln : Blk wr (w.heap.size + 1 + 1) (ivs lens) 64
  rs : Blk wr (w.heap.size + 1) (ivs z257) 64
  own : ∀ e ∈ E, Own wr 0 3 .i64 e.y e.s
  ef : Ef G w wr
  hG : G < w.heap.size
  cap : E.length ≤ c
theorem Stt.slices {w wr : World} {G c : Nat} {E : List TE} {lens : List Int} (h : Stt w wr G c E lens) : ∀ e ∈ E, ∃ a n c, e.y = .slice a n c := fun e he => by
  obtain ⟨ao, cc, hy⟩ := (h.own e he).shape
  exact ⟨_, _, _, hy⟩
theorem Stt.below {w wr w' : World} {G c : Nat} {E : List TE} {lens : List Int} (h : Stt w wr G c E lens) (hb : Below wr.heap.size wr w') : Stt w w' G c E lens := by
  obtain ⟨⟨h1, cur, h2, h3⟩, h4, h5, h6, h7, h8, h9⟩ := h
  exact ⟨⟨h1.below hb h1.lt, cur, h2, h3.1.below hb h3.1.lt, h3.2⟩, h4.below hb h4.lt, h5.below hb h5.lt, fun e he => (h6 e he).below hb, h7.trans (Ef.ofBelow hb (Nat.le_refl _)), h8, h9⟩
theorem Stt.bump {w wr : World} {G c : Nat} {E : List TE} {lens : List Int} (h : Stt w wr G c E lens) (j : Nat) (x : Int) : Stt w (wr.setCell ⟨w.heap.size + 1 + 1, j, none⟩ (.int .i64 x)) G c E (lens.set j x) := by
  obtain ⟨⟨h1, cur, h2, h3⟩, h4, h5, h6, h7, h8, h9⟩ := h
  have he : Ef (w.heap.size + 1 + 1) wr (wr.setCell ⟨w.heap.size + 1 + 1, j, none⟩ (.int .i64 x)) := Ef.set _ _ _
  refine ⟨⟨h1.ef he (by omega), cur, h2, h3.1.ef he (by omega), h3.2⟩, ?_, h5.ef he (by omega), fun e hm => (h6 e hm).ef h4 (by decide) he, ?_, h8, h9⟩
  · rw [← ivs_set]; exact h4.set _ _
  · exact ⟨he.os.trans h7.os, he.tape.trans h7.tape, he.output.trans h7.output, Nat.le_trans h7.size he.size, fun g hg hne => (he.block g (Nat.lt_of_lt_of_le hg h7.size) (fun e => by have := Option.some.inj e; omega)).trans (h7.block g hg hne)⟩
theorem Stt.two {w wr w' : World} {G c : Nat} {E E2 : List TE} {lens : List Int} (h : Stt w wr G c E lens) (he : Ef2 w.heap.size G wr w') (hp : HpM w' w.heap.size G c E2) (ho : ∀ e ∈ E2, Own w' 0 3 .i64 e.y e.s) (hc : E2.length ≤ c) : Stt w w' G c E2 lens :=
  ⟨hp, h.ln.ef2 he (by omega) (by have := h.hG; omega), h.rs.ef2 he (by omega) (by have := h.hG; omega), ho, Ef2.ef h.ef he (Nat.le_refl _), h.hG, hc⟩
theorem Stt.own2 {w wr w' : World} {G c : Nat} {E : List TE} {lens : List Int} (h : Stt w wr G c E lens) (he : Ef2 w.heap.size G wr w') {base : Nat} {v : Value} {xs : List Int} (ho : Own wr base 3 .i64 v xs) : Own w' base 3 .i64 v xs := by
  obtain ⟨h1, cur, h2, h3⟩ := h.hp
  exact ho.ef2 h1 (by decide) h3.1 (by decide) he
theorem Stt.pop {w wr : World} {G c : Nat} {E : List TE} {lens : List Int} (h : Stt w wr G c E lens) (h1 : 1 ≤ E.length) (h2 : E.length ≤ 1000) :
    Calls Try.prog 61 #[.iface 88 (.pointer (some ⟨w.heap.size, 0, none⟩))] wr fun e w1 => ∃ (x l : Int) (yo : Option Addr) (yn yc : Nat) (s : List Int) (E2 : List TE), e = .returned (.iface 86 (.agg #[.int .i64 x, .int .i64 l, .slice yo yn yc])) ∧
      Hid ((x, l, s) = hA (E.map TE.pl) ∧ E2.map TE.pl = hR (E.map TE.pl) ∧ Own w1 0 3 .i64 (.slice yo yn yc) s ∧ Stt w w1 G c E2 lens ∧ Ef2 w.heap.size G wr w1) := by
  obtain ⟨m, hm⟩ : ∃ m, E.length = m + 1 := ⟨E.length - 1, by omega⟩
  have hG := h.hG
  refine (pop_any w.heap.size G c E m wr (by omega) hm h2 h.cap h.hp h.slices).mono ?_
  rintro e w1 ⟨E2, rfl, hpl, hl, hmem, hp, he⟩
  have hin : nthE E2 m ∈ E := hmem _ (nthE_inE (by omega))
  have ho := h.own2 he (h.own _ hin)
  obtain ⟨yo, yc, hy⟩ := ho.shape
  refine ⟨(nthE E2 m).w, (nthE E2 m).l, yo, (nthE E2 m).s.length, yc, (nthE E2 m).s, E2.take m, by rw [hy], hid ⟨?_, ?_, by rw [← hy]; exact ho, h.two he hp (fun e hm2 => h.own2 he (h.own _ (hmem e (List.mem_of_mem_take hm2)))) (by have := h.cap; rw [List.length_take]; omega), he⟩⟩
  · have h3 := nthE_pl E2 m
    have h4 := popS_last (H := E.map TE.pl) (by rw [List.length_map]; omega)
    rw [List.length_map, hm, Nat.add_sub_cancel] at h4
    unfold hA
    rw [← h4, ← hpl, ← h3]
    rfl
  · unfold hR
    rw [List.map_take, hpl, List.length_map, hm, Nat.add_sub_cancel]
theorem Stt.push {w wr : World} {G c : Nat} {E : List TE} {lens : List Int} (h : Stt w wr G c E lens) (h1 : E.length < 1000) (h2 : E.length < c) (x l : Int) (yo : Option Addr) (yn yc : Nat) (s : List Int) (ho : Own wr 0 3 .i64 (.slice yo yn yc) s) :
    Calls Try.prog 63 #[.iface 88 (.pointer (some ⟨w.heap.size, 0, none⟩)), .iface 86 (.agg #[.int .i64 x, .int .i64 l, .slice yo yn yc])] wr fun e w1 => e = .returned (.tuple #[]) ∧ Hid (∃ E2, E2.map TE.pl = pushH (E.map TE.pl) (x, l, s) ∧ Stt w w1 G c E2 lens) := by
  have hG := h.hG
  refine (push_any w.heap.size G c E x l yo yn yc s wr (by omega) h1 h2 h.hp h.slices).mono ?_
  rintro e w1 ⟨rfl, E2, hp, hpl, hl, hmem, he⟩
  refine ⟨rfl, hid ⟨E2, hpl, h.two he hp (fun e hm => ?_) (by omega)⟩⟩
  rcases hmem e hm with h3 | h3
  · exact h.own2 he (h.own e h3)
  · rw [h3]; exact h.own2 he ho

end Go.Proofs.Ytmdmolofiblbmaa
