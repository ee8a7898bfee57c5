/- LogRead of the program. -/
import Derived.Test.YtphhgfgmlfdkiaaLs
import Derived.Test.YtphhgfgmlfdkiaaLq
namespace Go.Proofs.Ytphhgfgmlfdkiaa
open Go.RowKit Go.Shelf
set_option linter.unusedVariables false
attribute [local go_sem] Oper.semAt_some

/-- What stands in memory between two rounds. -/
def Ird (E : List ByteArray) (n0 B0 b Bs : Nat) (w w8 : World) (pre : List (Pl E)) (W : World) : Prop :=
  (∀ x ∈ pre, okAt E x = true) ∧ ∃ v, Blk W (n0 + 2) [v] 24 ∧ Blk W (n0 + 3) [.int .i64 (endOf E pre : Int)] 3 ∧ OwG W (n0 + 1) 9 1 v pre.length (encS (textsOf E pre)) ∧ LocT n0 B0 v ∧ Below n0 w W ∧ Kbb b Bs w8 W ∧ B0 ≤ W.heap.size
def Ixd (E : List ByteArray) (n0 B0 b Bs : Nat) (w w8 : World) (c : Code) (pre : List (Pl E)) (W : World) : Prop :=
  c = .exit 0 ∧ ∃ pre' x, pre = pre' ++ [x] ∧ okAt E x = false ∧ Ird E n0 B0 b Bs w w8 pre' W
theorem Ird.grown {E : List ByteArray} {n0 B0 b Bs : Nat} {w w8 : World} (hn : n0 + 3 < B0) (hb : b < B0) (hBs : Bs < B0) {pre : List (Pl E)} {W W' : World} {row : Option Nat} (h : Ird E n0 B0 b Bs w w8 pre W) (hg : W.grownBy W' row) (hr : ∀ r, row = some r → B0 ≤ r ∧ ∃ o : Obj, W.heap[r]? = some o ∧ o.isCells = false) : Ird E n0 B0 b Bs w w8 pre W' := by
  obtain ⟨h1, v, h2, h3, h4, h5, h6, h7, h8⟩ := h
  refine ⟨h1, v, h2.keptG hg (fun e => by have := (hr _ e.symm).1; omega), h3.keptG hg (fun e => by have := (hr _ e.symm).1; omega), h4.kept hg (fun g hv e => ?_), h5, h6.grown hg (by omega) (fun k e => by have := (hr _ e).1; omega), ⟨(hg.block b (by omega) (fun e => by have := (hr _ e.symm).1; omega)).trans h7.1, (hg.block Bs (by omega) (fun e => by have := (hr _ e.symm).1; omega)).trans h7.2⟩, Nat.le_trans h8 hg.size⟩
  obtain ⟨_, o, ho, hc⟩ := hr g e.symm
  rcases h4.2.2 with ⟨rfl, _⟩ | ⟨g3, cap, cur, rfl, _, h3, _⟩
  · simp [Value.ownBlock] at hv
  · obtain rfl : g3 = g := by simpa [Value.ownBlock] using hv
    rw [ho] at h3
    cases h3
    cases hc
theorem Ird.own {E : List ByteArray} {n0 B0 b Bs : Nat} {w w8 : World} (hn : n0 + 3 < B0) (hb : b < B0) (hBs : Bs < B0) : OwnFrom B0 (Ird E n0 B0 b Bs w w8) := fun pre W W' row h hg hr => h.grown hn hb hBs hg hr
theorem Ixd.own {E : List ByteArray} {n0 B0 b Bs : Nat} {w w8 : World} (hn : n0 + 3 < B0) (hb : b < B0) (hBs : Bs < B0) (c : Code) : OwnFrom B0 (Ixd E n0 B0 b Bs w w8 c) := by
  rintro pre W W' row ⟨h1, p', x, h2, h3, h4⟩ hg hr
  exact ⟨h1, p', x, h2, h3, h4.grown hn hb hBs hg hr⟩
theorem Kbb.put {b Bs B0 : Nat} (hb : b < B0) (hBs : Bs < B0) (W : World) (l : Nat) (o o' : Obj) (hl : B0 ≤ l) : Kbb b Bs W (W.putObj l o') := ⟨World.putObj_heap_other (by omega), World.putObj_heap_other (by omega)⟩
/-- The parts of a place, as they lie. -/
theorem parts_row {E : List ByteArray} {b : Nat} {W : World} (hc : ∀ j, j < E.length → W.cell? ⟨b, 0 + j, none⟩ = some (.string (sAt E j))) (p c : Nat) (h : p + c ≤ E.length) : Rw W (some ⟨b, 0 + p, none⟩) (encS (standing E p c)) := by
  intro j v hj
  have hl : (standing E p c).length = c := standing_len E p c h
  have hjc : j < c := by
    have := (List.getElem?_eq_some_iff.1 hj).1
    rw [encS_len, hl] at this
    omega
  rw [encS_at _ j (by omega), standing_at E p c j hjc] at hj
  cases hj
  refine ⟨b, 0 + p, rfl, ?_⟩
  have := hc (p + j) (by omega)
  rw [Nat.add_assoc]
  exact this

theorem OwG.putD {w : World} {base e sz n D : Nat} {v : Value} {cs : List Value} {o o' : Obj} (h : OwG w base e sz v n cs) (hD : w.heap[D]? = some o) (hc : o.isCells = false) : OwG (w.putObj D o') base e sz v n cs := by
  refine h.kept (grownBy_putObj' w D o') (fun g hv e => ?_)
  cases e
  rcases h.2.2 with ⟨rfl, _⟩ | ⟨g3, cap, cur, rfl, _, h3, _⟩
  · simp [Value.ownBlock] at hv
  · obtain rfl : g3 = D := by simpa [Value.ownBlock] using hv
    rw [hD] at h3
    cases h3
    cases hc

theorem places_made (a : Option Addr) (n c : Nat) (w : World) :
    Calls Try.prog 47 #[.slice a n c] w fun e w' => e = .returned (.func (.func 78) #[] #[.pointer (some ⟨w.heap.size, 0, none⟩)]) ∧ w' = w.alloc (.cells #[.slice a n c] 24) := by
  go_enter Try.func47, Try.ntmps47
  go_wp2
  go_ret
  exact ⟨rfl, rfl⟩

set_option maxRecDepth 100000 in
set_option maxHeartbeats 3200000 in
theorem impl_logRead (v : Value) (S : List ByteArray) (L : List (Int × ByteArray)) (w : World) (hv : DP w v S L) :
    Calls Try.prog 14 #[v] w fun e w' => ∃ v' o p, e = .returned (.tuple #[v', .int .i64 (p : Nat)]) ∧ OwG w' w.heap.size 9 1 v' o.length (encS o) ∧ LogR S L o p ∧ Below w.heap.size w w' := by
  obtain ⟨a, c, a', c', e0, r1, r2, p1, p2⟩ := id hv
  subst e0
  obtain ⟨n1, n2, n3⟩ := new_two w [.slice a S.length c, .slice a' L.length c'] [] 27 9
  have OT0 := OwG.empty (w.alloc (.cells #[.slice a S.length c, .slice a' L.length c'] 27)) (w.heap.size + 1) 9 1 (by simp)
  have hsz0 : (w.alloc (.cells #[.slice a S.length c, .slice a' L.length c'] 27)).heap.size = w.heap.size + 1 := by simp
  rw [hsz0] at OT0
  have hsz1 : ((w.alloc (.cells #[.slice a S.length c, .slice a' L.length c'] 27)).alloc (.cells #[] 9)).heap.size = w.heap.size + 2 := by simp
  obtain ⟨m1, m2, m3⟩ := new_two ((w.alloc (.cells #[.slice a S.length c, .slice a' L.length c'] 27)).alloc (.cells #[] 9)) [.slice (some ⟨w.heap.size + 1, 0, none⟩) 0 0] [.int .i64 0] 24 3
  have N := hid (n1.below m3 n1.lt)
  have OT := hid (OT0.below m3)
  rw [hsz1] at m1 m2
  have XT : Hid (Blk _ (w.heap.size + 1 + 1) _ _) := hid m1
  have XE : Hid (Blk _ (w.heap.size + 1 + 1 + 1) _ _) := hid m2
  have B := hid (n3.trans (m3.mono n3.size))
  have V := hid (hv.below (Nat.le_refl _) B.out)
  have hsz3 : ((((w.alloc (.cells #[.slice a S.length c, .slice a' L.length c'] 27)).alloc (.cells #[] 9)).alloc (.cells #[.slice (some ⟨w.heap.size + 1, 0, none⟩) 0 0] 24)).alloc (.cells #[.int .i64 0] 3)).heap.size = w.heap.size + 4 := by simp
  clear n1 n2 n3 m1 m2 m3 OT0 hsz0 hsz1 r1 r2 p1 p2
  cases hO1 : okB S L with
  | false =>
    have HOK := hid (fun wz (hz : DV wz (.agg #[.slice a S.length c, .slice a' L.length c']) S L) => impl_ok _ S L wz hz)
    rw [hO1] at HOK
    have HLR := hid (show LogR S L [] 0 from .inr ⟨hO1, rfl, rfl⟩)
    refine (callsIn_wide (n := 6)).1 ?_
    refine callsIn_of_wp_marks Try.func14 rfl trivial ?_ rfl
    simp only [Try.ntmps14, List.size_toArray, List.length_cons, List.length_nil, Nat.reduceAdd, Nat.reduceSub, Array.replicate_succ, Array.replicate_zero, List.push_toArray, List.append_toArray, List.nil_append, List.cons_append]
    gi_wp2
    refine ⟨trivial, ?_⟩
    refine (callsIn_wide.2 (HOK.out _ V.out.dv)).mono ?_
    generalize (((w.alloc (.cells #[.slice a S.length c, .slice a' L.length c'] 27)).alloc (.cells #[] 9)).alloc (.cells #[.slice (some ⟨w.heap.size + 1, 0, none⟩) 0 0] 24)).alloc (.cells #[.int .i64 0] 3) = w4 at *
    rintro e w5 ⟨rfl, hb⟩
    replace B := hid (B.out.trans (hb.mono B.out.size))
    replace XT := hid (XT.out.below hb XT.out.lt)
    replace XE := hid (XE.out.below hb XE.out.lt)
    replace OT := hid (OT.out.below hb)
    have cT := XT.out.cell (i := 0) rfl
    have cE := XE.out.cell (i := 0) rfl
    clear hb
    gi_wp2
    gi_region
    gi_wp2
    refine ⟨_, results_tmp2 rfl _ _ _, _, [], 0, rfl, OT.out.drew1.mono (by omega), HLR.out, B.out.drew⟩
  | true =>
    have hD := okB_iff hO1
    have HOK := hid (fun wz (hz : DV wz (.agg #[.slice a S.length c, .slice a' L.length c']) S L) => impl_ok _ S L wz hz)
    rw [hO1] at HOK
    have HOW := hid (fun wz (hz : DP wz (.agg #[.slice a S.length c, .slice a' L.length c']) S L) => open_whole _ S L wz hD hz)
    have HRA := hid (fun ao c b m wz hr h => read_all ao c b m S (mpTo L L.length) wz hD.1.1 hr h)
    have HES := hid (fun i (hi : i < S.length) => eff_size hD i hi)
    have HEL := hid (eff_len S L)
    have hS1 : S.length ≤ 1500 := hD.1.1
    have HLR := hid (show ∀ o p, Log (eff S L) o p → LogR S L o p from fun o p h => .inl ⟨hO1, h⟩)
    have HEF : Hid (raL (mpTo L L.length) S = eff S L) := hid rfl
    rw [HEF.out] at HRA
    generalize eff S L = E at *
    clear HEF hD hv
    refine (callsIn_wide (n := 6)).1 ?_
    refine callsIn_of_wp_marks Try.func14 rfl trivial ?_ rfl
    simp only [Try.ntmps14, List.size_toArray, List.length_cons, List.length_nil, Nat.reduceAdd, Nat.reduceSub, Array.replicate_succ, Array.replicate_zero, List.push_toArray, List.append_toArray, List.nil_append, List.cons_append]
    gi_wp2
    refine ⟨trivial, ?_⟩
    refine (callsIn_wide.2 (HOK.out _ V.out.dv)).mono ?_
    generalize (((w.alloc (.cells #[.slice a S.length c, .slice a' L.length c'] 27)).alloc (.cells #[] 9)).alloc (.cells #[.slice (some ⟨w.heap.size + 1, 0, none⟩) 0 0] 24)).alloc (.cells #[.int .i64 0] 3) = w4 at *
    rintro e w5 ⟨rfl, hb⟩
    replace B := hid (B.out.trans (hb.mono B.out.size))
    replace V := hid (V.out.below (Nat.le_refl _) hb)
    replace N := hid (N.out.below hb N.out.lt)
    replace XT := hid (XT.out.below hb XT.out.lt)
    replace XE := hid (XE.out.below hb XE.out.lt)
    replace OT := hid (OT.out.below hb)
    have hs45 := hb.size
    clear hb
    have q0 := N.out.cell (i := 0) rfl
    have q1 := N.out.cell (i := 1) rfl
    gi_wp2_with (first
      | (refine ⟨trivial, ?_⟩; gi_at_call 48; refine (callsIn_wide.2 (HOW.out _ V.out)).mono ?_; rintro e w6 ⟨va, bm, rfl, hoa, hmp, hbm, hb⟩; obtain ⟨ya, yc, rfl, _, _⟩ := hoa.shape; replace B := hid (B.out.trans (hb.mono B.out.size)); replace XT := hid (XT.out.below hb XT.out.lt); replace XE := hid (XE.out.below hb XE.out.lt); replace OT := hid (OT.out.below hb); have hs56 := hb.size; clear hb q0 q1 V N)
      | (refine ⟨trivial, ?_⟩; gi_at_call 49; refine (callsIn_wide.2 (HRA.out _ _ _ _ _ hoa.rw hmp)).mono ?_; rintro e w7 ⟨ve, rfl, hoe, hb⟩; obtain ⟨ea, ec, rfl, hep, hec⟩ := hoe.shape; replace B := hid (B.out.trans (hb.mono B.out.size)); replace XT := hid (XT.out.below hb XT.out.lt); replace XE := hid (XE.out.below hb XE.out.lt); replace OT := hid (OT.out.below hb); have hs67 := hb.size; clear hb hoa hmp)
      | (refine ⟨trivial, ?_⟩; gi_at_call 47; refine (callsIn_wide.2 (places_made _ _ _ _)).mono ?_; rintro e w8 ⟨rfl, hw8⟩))
    subst hw8
    have hel := HEL.out
    rw [← hel] at hoe hec hS1
    have HBs := hid (Blk.new w7 [.slice ea E.length ec] 24)
    have hoe8 := hoe.alloc (.cells #[.slice ea E.length ec] 24)
    rw [← hel]
    have HESE := hid (fun j (hj : j < E.length) => HES.out j (by omega))
    clear hel
    obtain ⟨b, hb1, hb2, hbc, hseq⟩ := places_stops 5 (by omega) w7.heap.size ec w6.heap.size ea E _ hS1 HESE.out hec HBs.out hs67 hoe8
    have hsz8 : (w7.alloc (Obj.cells #[Value.slice ea E.length ec] 24)).heap.size = w7.heap.size + 1 := by simp
    have hI0 : Ird E w.heap.size (w7.heap.size + 1) b w7.heap.size w (w7.alloc (Obj.cells #[Value.slice ea E.length ec] 24)) [] (w7.alloc (Obj.cells #[Value.slice ea E.length ec] 24)) :=
      ⟨fun x hx => by simp at hx, _, XT.out.alloc _, XE.out.alloc _, OT.out.alloc _, ⟨_, rfl, .inl rfl⟩, B.out.alloc B.out.size _, ⟨rfl, rfl⟩, by rw [hsz8]; exact Nat.le_refl _⟩
    obtain ⟨w8, hw8⟩ : ∃ w8, w7.alloc (Obj.cells #[Value.slice ea E.length ec] 24) = w8 := ⟨_, rfl⟩
    rw [hw8] at hb2 hbc hseq hsz8 hI0 ⊢
    have hB0 := hid hsz8
    rw [← hsz8] at hI0
    have hk1 : w.heap.size + 3 < w8.heap.size := by omega
    have hk2 : w7.heap.size < w8.heap.size := by omega
    refine wpIn_rangeFunc_ownH rfl (by decide) (gf := 78) (lb := #[.pointer (some ⟨w7.heap.size, 0, none⟩)]) rfl trivial (enters_of Try.func78 (by kernel_rfl) rfl) hseq (fun h k => ⟨k.1.trans h.1, k.2.trans h.2⟩) (fun W l o o' hl _ _ _ => Kbb.put hb2 hk2 W l o o' hl) (Below.refl _ _) (fun _ => rfl)
      (Ird E w.heap.size w8.heap.size b w7.heap.size w w8) (Ixd E w.heap.size w8.heap.size b w7.heap.size w w8) (Ird.own hk1 hb2 hk2) (Ixd.own hk1 hb2 hk2) hI0
      (fun x a2 W => ∃ Bx, w8.heap.size ≤ Bx ∧ Blk W Bx [.int .i64 (x.1.1 : Int), .slice (some ⟨b, x.1.2, none⟩) (cnt E x.1.2) (ec - x.1.2), .int .i64 ((x.1.2 : Int) + (cnt E x.1.2 : Int))] 82 ∧ a2 = { tmps := #[Value.agg #[Value.slice a E.length c, Value.slice a' L.length c'], Value.pointer (some { block := w.heap.size, off := 0 }), Value.slice none 0 0, Value.int IntKind.i64 0, Value.pointer (some { block := w.heap.size + 1 + 1, off := 0 }), Value.pointer (some { block := w.heap.size + 1 + 1 + 1, off := 0 }), .pointer (some ⟨Bx, 0, none⟩), undef, undef, Value.slice (some { block := w.heap.size + 1, off := 0 }) 0 0, Value.agg #[Value.slice a E.length c, Value.slice a' L.length c'], Value.bool true, Value.bool false, undef, undef, Value.agg #[Value.slice a E.length c, Value.slice a' L.length c'], Value.agg #[Value.slice ya E.length yc, Value.map (some bm)], Value.slice ea E.length ec, Value.func (Fn.func 78) #[] #[Value.pointer (some { block := w7.heap.size, off := 0 })], .agg #[.int .i64 (x.1.1 : Int), .slice (some ⟨b, x.1.2, none⟩) (cnt E x.1.2) (ec - x.1.2), .int .i64 ((x.1.2 : Int) + (cnt E x.1.2 : Int))], undef, undef, undef, undef, undef, undef, undef, undef, undef, undef, undef, undef, undef, undef, undef], defers := [] })
      ?hAx ?assign ?body ?done ?stop
    case hAx =>
      rintro x a2 _ X Y row ⟨Bx, g1, g2, g3⟩ hg hr
      refine ⟨Bx, g1, g2.keptG hg (fun e => ?_), g3⟩
      obtain ⟨_, o, ho, hc⟩ := hr Bx e.symm
      unfold Blk at g2
      rw [g2] at ho
      cases ho
      cases hc
    case assign =>
      rintro l pre x W K hi hK
      dsimp only [encP]
      gi_wp2
      obtain ⟨i1, v, i2, i3, i4, i5, i6, i7, i8⟩ := hi
      refine hK _ _ ((KeepsOthers.alloc _ _).from _) ⟨Below.heap_alloc _ _ _ (by omega), Below.heap_alloc _ _ _ (by omega)⟩ ⟨i1, v, i2.alloc _, i3.alloc _, i4.alloc _, i5, i6.alloc i6.size _, ⟨(Below.heap_alloc _ _ _ (by omega)).trans i7.1, (Below.heap_alloc _ _ _ (by omega)).trans i7.2⟩, Nat.le_trans i8 (by simp)⟩ ⟨W.heap.size, i8, Blk.new W _ 82, rfl⟩
    case body =>
      rintro l pre x a2 W hl ⟨r, hr⟩ ⟨i1, v, i2, i3, i4, i5, i6, i7, i8⟩ ⟨Bx, hBx, bX, rfl⟩ hlt
      have hx2 := x.2
      have hcp := cnt_pos E x.1.2 hx2.2.2
      have hcW : ∀ j, j < E.length → W.cell? ⟨b, 0 + j, none⟩ = some (.string (sAt E j)) := fun j hj => by
        have := (i7.cell (0 + j)).1
        rw [this]
        exact hbc j hj
      have hrw := parts_row hcW x.1.2 (cnt E x.1.2) hcp.2
      have hsl := standing_len E x.1.2 (cnt E x.1.2) hcp.2
      have HTX := hid (text_any x.1.1 ((x.1.2 : Int) + (cnt E x.1.2 : Int)) (some ⟨b, 0 + x.1.2, none⟩) (ec - x.1.2) (standing E x.1.2 (cnt E x.1.2)) W (by omega) (by omega) (fun j hj => by rw [hsl] at hj; rw [standing_at E _ _ j hj]; exact HESE.out _ (by omega)) hrw)
      rw [hsl, Nat.zero_add] at HTX
      have HOA : Hid (txB x.1.1 (standing E x.1.2 (cnt E x.1.2)) = okAt E x) := hid rfl
      have HTA : Hid (txS x.1.1 (standing E x.1.2 (cnt E x.1.2)) = txAt E x) := hid rfl
      rw [HOA.out, HTA.out] at HTX
      have bX0 := bX.cell (i := 0) rfl
      have bX1 := bX.cell (i := 1) rfl
      have bX2 := bX.cell (i := 2) rfl
      clear hrw hcW HOA HTA
      replace hsl := hid hsl
      have hsW : w8.heap.size ≤ W.heap.size := i8
      cases hok : okAt E x with
      | false =>
        rw [hok] at HTX
        gi_wp2_with (refine ⟨trivial, ?_⟩; gi_at_call 50; refine (CallsIn.inRound l (callsIn_wide.2 HTX.out)).mono ?_; rintro e wt ⟨rfl, hbt⟩)
        refine ⟨⟨hbt.size, fun k o hk hko _ => (hbt.block k (Array.getElem?_eq_some_iff.1 hko).1).trans hko⟩, rfl, pre, x, rfl, hok, i1, v, i2.below hbt i2.lt, i3.below hbt i3.lt, i4.below hbt, i5, i6.trans (hbt.mono i6.size), ⟨(hbt.block b (by omega)).trans i7.1, (hbt.block w7.heap.size (by omega)).trans i7.2⟩, Nat.le_trans i8 hbt.size⟩
      | true =>
        rw [hok] at HTX
        gi_wp2_with (refine ⟨trivial, ?_⟩; gi_at_call 50; refine (CallsIn.inRound l (callsIn_wide.2 HTX.out)).mono ?_; rintro e wt ⟨rfl, hbt⟩)
        have hxe : ((x.1.2 : Int) + (cnt E x.1.2 : Int)) = ((endOf E (pre ++ [x]) : Nat) : Int) := by rw [endOf_snoc]; omega
        refine push_region _ l 4 w.heap.size w8.heap.size b w7.heap.size Bx (w.heap.size + 1 + 1) (w.heap.size + 1 + 1 + 1) _ _ _ _ _ _ _ _ _ _ _ _ _ _ _ _ _ _ _ _ _ _ _ v pre.length (encS (textsOf E pre)) (txAt E x) (endOf E pre) _ _ _ _ wt rfl rfl (Nat.le_trans i8 hbt.size) ⟨by omega, hb2⟩ ⟨by omega, hk2⟩ hBx (by omega) (bX.below hbt bX.lt) (i2.below hbt i2.lt) (i3.below hbt i3.lt) (i4.below hbt) i5 ?_
        rintro a3 wq v' ⟨g1, g2, g3, g4, g5⟩ q1 q2 q3 q4
        refine ⟨KeepsFrom.trans ⟨hbt.size, fun k o hk hko _ => (hbt.block k (Array.getElem?_eq_some_iff.1 hko).1).trans hko⟩ g3, ⟨g4.1.trans (hbt.block b (by omega)), g4.2.trans (hbt.block w7.heap.size (by omega))⟩, ?_, v', q1, ?_, ?_, q4, (i6.trans (hbt.mono i6.size)).trans (g2), ⟨g4.1.trans ((hbt.block b (by omega)).trans i7.1), g4.2.trans ((hbt.block w7.heap.size (by omega)).trans i7.2)⟩, Nat.le_trans i8 (Nat.le_trans hbt.size g5)⟩
        · intro y hy
          rcases List.mem_append.1 hy with h | h
          · exact i1 y h
          · rw [List.mem_singleton.1 h]
            exact hok
        · rw [← hxe]
          exact q2
        · rw [List.length_append, textsOf_snoc, encS_app]
          exact q3
    case done =>
      rintro D ys W hD ⟨k, hpl, hpe⟩ ⟨i1, v, i2, i3, i4, i5, i6, i7, i8⟩ hK
      have hlog := HLR.out _ _ (log_done hpl i1 hpe)
      obtain ⟨va, vc, rfl, _, _⟩ := i4.shape
      have cT := i2.cell (i := 0) rfl
      have cE := i3.cell (i := 0) rfl
      gi_wp2
      gi_region
      gi_wp2
      refine ⟨by simp, .inl ⟨_, _, rfl, run_takeDeferred hK, ?_⟩⟩
      refine ⟨_, results_tmp2 rfl _ _ _, _, textsOf E ys, endOf E ys, rfl, ?_, hlog, ?_⟩
      · rw [textsOf_len]
        exact OwG.putD (w := W.drew) (i4.mono (by omega)) hK rfl
      · exact (i6.drew).trans (belowK_b (w := w) (Nat.le_refl _) W.drew D _ _ (by omega) hK rfl rfl)
    case stop =>
      rintro D cc pre W hD ⟨k, hpl⟩ ⟨rfl, pre', x, rfl, hx, ⟨i1, v, i2, i3, i4, i5, i6, i7, i8⟩⟩ hK
      have hlog := HLR.out _ _ (log_stop hpl i1 hx)
      obtain ⟨va, vc, rfl, _, _⟩ := i4.shape
      have cT := i2.cell (i := 0) rfl
      have cE := i3.cell (i := 0) rfl
      gi_wp2
      gi_region
      gi_wp2
      refine ⟨by simp, .inl ⟨_, _, rfl, run_takeDeferred hK, ?_⟩⟩
      refine ⟨_, results_tmp2 rfl _ _ _, _, textsOf E pre', endOf E pre', rfl, ?_, hlog, ?_⟩
      · rw [textsOf_len]
        exact OwG.putD (w := W.drew) (i4.mono (by omega)) hK rfl
      · exact (i6.drew).trans (belowK_b (w := w) (Nat.le_refl _) W.drew D _ _ (by omega) hK rfl rfl)
end Go.Proofs.Ytphhgfgmlfdkiaa
