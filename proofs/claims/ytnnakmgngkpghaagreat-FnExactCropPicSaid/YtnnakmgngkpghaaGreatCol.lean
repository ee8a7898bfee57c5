/- columns of the program: the sheet, column by column. -/
import Derived.Test.YtnnakmgngkpghaaGreatBsd
namespace Go.Proofs.YtnnakmgngkpghaaGreat
open Go.RowKit Go.Maps
set_option linter.unusedVariables false

theorem info56' : (Tryz.prog.info? 56).map (fun i => (i.zero, i.size, i.bytes)) = some (some (.agg #[.int .i64 0, .int .i64 0, .slice none 0 0]), 3, 40) := by kernel_rfl
/-- 'make([]sheet, n)'. -/
theorem wpList_mkS {P : Program} {ops : Array Oper} {rest : List Oper} {o : Oper} {a : Act} {Q : Exit → Act → World → Prop} (w : World) (hgd : o.guard = none) (l c : Operand) (t : TypeId)
    (ho : o.op = Op.makeSlice t l c) (ht : P.underlying t = some (.slice 56)) (hinfo : (P.info? 56).map (fun i => (i.zero, i.size, i.bytes)) = some (some (.agg #[.int .i64 0, .int .i64 0, .slice none 0 0]), 3, 40))
    (kl kc : IntKind) (n : Nat) (hl : a.eval l = .int kl n) (hc : a.eval c = .int kc n) (hn : n ≤ 1000000000)
    (h : ∀ w' arr, Arr w' w.heap.size arr 56 → arr.size = n * 3 → Below w.heap.size w w' → wpList P ops Q rest (a.put o.dst (.slice (some ⟨w.heap.size, 0, none⟩) n n)) w') : wpList P ops Q (o :: rest) a w := by
  obtain ⟨i, hi, hz0, hz1, hz2⟩ := info_parts hinfo
  have hmul : i.bytes * n = 40 * n := by rw [hz2]
  refine wpList_make_full w hgd l c t ho w.heap.size 56 i (.agg #[.int .i64 0, .int .i64 0, .slice none 0 0]) 3 ht hi hz0 hz1 kl kc n n n hl hc rfl rfl (by omega) (by unfold maxLen; omega) (Nat.le_refl _) ?_
  intro w' hown hgrow
  rcases hown.2 with ⟨hv, _⟩ | ⟨g, cap, cur, hv, hg, hh, hle, hcm, hsz, _⟩
  · cases hv
  · cases hv
    exact h w' cur hh hsz ((Below.refl w.heap.size w).grown hgrow (Nat.le_refl _) (fun _ hg => by cases hg))
def noZ : (Int × List Int) × Value := ((0, []), .bool false)
/-- The first r blocks of column c. -/
def colTo (S : Sh) (c : Nat) : Nat → List ((Int × List Int) × Value)
  | 0 => []
  | r + 1 => colTo S c r ++ [S.Z.getD (r * S.w + c) noZ]
theorem colTo_len (S : Sh) (c : Nat) : ∀ r, (colTo S c r).length = r
  | 0 => rfl
  | r + 1 => by rw [colTo, List.length_append, colTo_len S c r]; rfl
theorem flZ_at : ∀ (Z : List ((Int × List Int) × Value)) (k : Nat), k < Z.length → (flZ Z)[k * 2]? = some (.int .i64 (Z.getD k noZ).1.1) ∧ (flZ Z)[k * 2 + 1]? = some (Z.getD k noZ).2
  | [], k, h => by simp at h
  | z :: zs, 0, _ => by simp [flZ, List.getD]
  | z :: zs, k + 1, h => by
    have ih := flZ_at zs k (by simpa using h)
    rw [flZ, show (k + 1) * 2 = k * 2 + 1 + 1 by omega]
    simp only [List.getElem?_cons_succ]
    simpa [List.getD] using ih
/-- What lies below M stays, but block G. -/
def Kx (M G : Nat) (w q : World) : Prop := w.heap.size ≤ q.heap.size ∧ ∀ k, k < M → k ≠ G → q.heap[k]? = w.heap[k]?
theorem Kx.refl (M G : Nat) (w : World) : Kx M G w w := ⟨Nat.le_refl _, fun _ _ _ => rfl⟩
theorem Kx.trans {M G : Nat} {a b c : World} (h : Kx M G a b) (k : Kx M G b c) : Kx M G a c := ⟨Nat.le_trans h.1 k.1, fun j hj hn => (k.2 j hj hn).trans (h.2 j hj hn)⟩
theorem Kx.ofBelow {M G : Nat} {a b : World} (h : Below M a b) : Kx M G a b := ⟨h.size, fun j hj _ => h.block j hj⟩
theorem Kx.set {M G : Nat} {a b : World} (h : Kx M G a b) (i : Nat) (u : Value) : Kx M G a (b.setCell ⟨G, i, none⟩ u) := ⟨by simpa using h.1, fun j hj hn => (heap_setCell_other _ ⟨G, i, none⟩ j _ hn).trans (h.2 j hj hn)⟩
theorem Kx.mono {M M' G : Nat} {a b : World} (h : Kx M G a b) (hm : M' ≤ M) : Kx M' G a b := ⟨h.1, fun j hj hn => h.2 j (by omega) hn⟩
theorem ShIn.kx {M G : Nat} {w q : World} {S : Sh} (h : ShIn w S) (hk : Kx M G w q) (hb : S.b < M) (hn : S.b ≠ G) : ShIn q S := fun j u hu => by
  have h1 := h j u hu
  rw [← h1]
  simp only [World.cell?, hk.2 S.b hb hn]
/-- The first c columns stand in the parts. -/
def ClIn (q : World) (G W H : Nat) (S : Sh) (arr : Array Value) (Ts : List Sh) (c M : Nat) : Prop :=
  arr.size = W * 3 ∧ Ts.length = c ∧ ∀ i, i < c → ((nthSh Ts i).w = 1 ∧ (nthSh Ts i).Z = colTo S i H ∧ (nthSh Ts i).b < M ∧ (nthSh Ts i).b ≠ G ∧ H ≤ (nthSh Ts i).cap) ∧ ShIn q (nthSh Ts i) ∧
    arr[i * 3]? = some (.int .i64 1) ∧ arr[i * 3 + 1]? = some (.int .i64 (H : Int)) ∧ arr[i * 3 + 2]? = some (.slice (some ⟨(nthSh Ts i).b, (nthSh Ts i).off, none⟩) H (nthSh Ts i).cap)
theorem nthSh_app (Ts : List Sh) (T : Sh) (i : Nat) (h : i < Ts.length) : nthSh (Ts ++ [T]) i = nthSh Ts i := by simp [nthSh, List.getD, List.getElem?_append_left h]
theorem nthSh_last (Ts : List Sh) (T : Sh) : nthSh (Ts ++ [T]) Ts.length = T := by simp [nthSh, List.getD]
theorem ClIn.step {w q : World} {G W H c M M' : Nat} {S : Sh} {arr : Array Value} {Ts : List Sh} (h : ClIn w G W H S arr Ts c M) (hk : Kx M G w q) (hM : M ≤ M') (hc : c < W) (b cap : Nat) (hb : b < M') (hn : b ≠ G) (hH : H ≤ cap) (hs : ShIn q ⟨1, colTo S c H, b, 0, cap⟩) :
    ClIn q G W H S (((arr.setIfInBounds (c * 3) (.int .i64 1)).setIfInBounds (c * 3 + 1) (.int .i64 (H : Int))).setIfInBounds (c * 3 + 2) (.slice (some ⟨b, 0, none⟩) H cap)) (Ts ++ [⟨1, colTo S c H, b, 0, cap⟩]) (c + 1) M' := by
  obtain ⟨h1, h2, h3⟩ := h
  refine ⟨by simp [h1], by simp [h2], fun i hi => ?_⟩
  by_cases e : i = c
  · subst e
    have e1 : nthSh (Ts ++ [(⟨1, colTo S i H, b, 0, cap⟩ : Sh)]) i = ⟨1, colTo S i H, b, 0, cap⟩ := by
      have := nthSh_last Ts ⟨1, colTo S i H, b, 0, cap⟩
      rw [h2] at this
      exact this
    rw [e1]
    refine ⟨⟨rfl, rfl, hb, hn, hH⟩, hs, ?_, ?_, ?_⟩
    · rw [Array.getElem?_setIfInBounds_ne (by omega), Array.getElem?_setIfInBounds_ne (by omega), Array.getElem?_setIfInBounds_self_of_lt (by omega)]
    · rw [Array.getElem?_setIfInBounds_ne (by omega), Array.getElem?_setIfInBounds_self_of_lt (by simp; omega)]
    · rw [Array.getElem?_setIfInBounds_self_of_lt (by simp; omega)]
  · have hi' : i < c := by omega
    rw [nthSh_app Ts _ i (by omega)]
    obtain ⟨⟨a1, a2, a3, a4, a5⟩, a6, a7, a8, a9⟩ := h3 i hi'
    refine ⟨⟨a1, a2, by omega, a4, a5⟩, a6.kx hk a3 a4, ?_, ?_, ?_⟩
    · rw [Array.getElem?_setIfInBounds_ne (by omega), Array.getElem?_setIfInBounds_ne (by omega), Array.getElem?_setIfInBounds_ne (by omega), a7]
    · rw [Array.getElem?_setIfInBounds_ne (by omega), Array.getElem?_setIfInBounds_ne (by omega), Array.getElem?_setIfInBounds_ne (by omega), a8]
    · rw [Array.getElem?_setIfInBounds_ne (by omega), Array.getElem?_setIfInBounds_ne (by omega), Array.getElem?_setIfInBounds_ne (by omega), a9]

/-- What the operations of the statement leave. -/
def VL (ps ic p0 p2 v shv ir rv pb bv : Value) (d : Int) (y : Value) (Mc : Nat) (Y : List ((Int × List Int) × Value)) : Nat → Value → World → Prop
  | 0, u, _ => u = ps
  | 1, u, _ => u = ic
  | 2, u, _ => u = ps
  | 3, u, _ => u = ic
  | 4, u, _ => u = p0
  | 5, u, _ => u = p2
  | 6, u, _ => u = v
  | 7, u, _ => u = shv
  | 8, u, _ => u = ir
  | 9, u, _ => u = rv
  | 10, u, _ => u = ic
  | 11, u, _ => u = pb
  | 12, u, _ => u = bv
  | 13, u, w => ∃ g, u = .slice (some ⟨g, 0, none⟩) 1 1 ∧ Two w g (.int .i64 d) y 65 ∧ v.ownBlock ≠ some g
  | 14, u, w => OwnZ w Mc u Y
  | 15, u, _ => u = p0
  | 16, u, _ => u = p2
  | _, _, _ => True
theorem VL.below {ps ic p0 p2 v shv ir rv pb bv : Value} {d : Int} {y : Value} {Mc : Nat} {Y : List ((Int × List Int) × Value)} {w w' : World} (hb : Below w.heap.size w w') (j : Nat) (hj : j < 17) (u : Value) (h : VL ps ic p0 p2 v shv ir rv pb bv d y Mc Y j u w) : VL ps ic p0 p2 v shv ir rv pb bv d y Mc Y j u w' := by
  obtain rfl | rfl | rfl | rfl | rfl | rfl | rfl | rfl | rfl | rfl | rfl | rfl | rfl | rfl | rfl | rfl | rfl : j = 0 ∨ j = 1 ∨ j = 2 ∨ j = 3 ∨ j = 4 ∨ j = 5 ∨ j = 6 ∨ j = 7 ∨ j = 8 ∨ j = 9 ∨ j = 10 ∨ j = 11 ∨ j = 12 ∨ j = 13 ∨ j = 14 ∨ j = 15 ∨ j = 16 := by omega
  all_goals first
    | exact h
    | (obtain ⟨g, e, h1, h2⟩ := h; exact ⟨g, e, h1.below hb h1.lt, h2⟩)
    | exact OwnZ.below h hb
theorem VL.grown {ps ic p0 p2 v shv ir rv pb bv : Value} {d : Int} {y : Value} {Mc : Nat} {Y : List ((Int × List Int) × Value)} {w w' : World} (hg : ∀ g, g < w.heap.size → v.ownBlock ≠ some g → w'.heap[g]? = w.heap[g]?) (j : Nat) (hj : j < 17) (hne : j ≠ 14) (u : Value) (h : VL ps ic p0 p2 v shv ir rv pb bv d y Mc Y j u w) : VL ps ic p0 p2 v shv ir rv pb bv d y Mc Y j u w' := by
  obtain rfl | rfl | rfl | rfl | rfl | rfl | rfl | rfl | rfl | rfl | rfl | rfl | rfl | rfl | rfl | rfl | rfl : j = 0 ∨ j = 1 ∨ j = 2 ∨ j = 3 ∨ j = 4 ∨ j = 5 ∨ j = 6 ∨ j = 7 ∨ j = 8 ∨ j = 9 ∨ j = 10 ∨ j = 11 ∨ j = 12 ∨ j = 13 ∨ j = 14 ∨ j = 15 ∨ j = 16 := by omega
  all_goals first
    | exact h
    | exact absurd rfl hne
    | (obtain ⟨g, e, h1, h2⟩ := h; exact ⟨g, e, (hg g h1.lt h2).trans h1, h2⟩)
def DL (j : Nat) : Nat := j + 25
theorem Facts.step3 {n : Nat} {V : Nat → Value → World → Prop} {D : Nat → Nat} {listed : Array Bool} {u : Nat → Value} {w w' : World} (h : Facts n V D listed u w) (i : Nat) (v : Value)
    (hD : ∀ j, j < n → j ≠ i → D j ≠ D i) (hV : ∀ j, j < n → j ≠ i → ∀ x, V j x w → V j x w') (hv : V i v w') : Facts n V D (listed.setIfInBounds i true) (upd u (D i) v) w' := by
  intro j hj hl
  by_cases e : j = i
  · subst e
    simpa [upd] using hv
  · rw [getD_set_ne false (fun h => e h.symm)] at hl
    have h1 : upd u (D i) v (D j) = u (D j) := by simp [upd, hD j hj e]
    rw [h1]
    exact hV j hj e _ (h j hj hl)

set_option maxRecDepth 100000 in
set_option maxHeartbeats 6400000 in
theorem columns_any (S : Sh) (H : Nat) (w : World) (hW : 1 ≤ S.w ∧ S.w ≤ 1000) (hH : 1 ≤ H ∧ H ≤ 1000) (hs : ShIn w S) (hl : S.Z.length = S.w * H) (hcap : S.Z.length ≤ S.cap) (h1c : ∀ z ∈ S.Z, z.2.oneCell' = true) :
    Calls Tryz.prog 48 #[.agg #[.int .i64 (S.w : Int), .int .i64 (H : Int), .slice (some ⟨S.b, S.off, none⟩) S.Z.length S.cap]] w fun e w' => ∃ G arr Ts, e = .returned (.slice (some ⟨G, 0, none⟩) S.w S.w) ∧ Arr w' G arr 56 ∧ ClIn w' G S.w H S arr Ts S.w w'.heap.size ∧ Below w.heap.size w w' := by
  have HS := hid hs
  have HL := hid hl
  have HCAP := hid hcap
  have H1C := hid h1c
  have HA := hid ((Below.refl w.heap.size w).alloc (Nat.le_refl _) (.cells #[.int .i64 (S.w : Int), .int .i64 (H : Int), .slice (some ⟨S.b, S.off, none⟩) S.Z.length S.cap] 56))
  have T0 := hid (Tri.new w (.int .i64 (S.w : Int)) (.int .i64 (H : Int)) (.slice (some ⟨S.b, S.off, none⟩) S.Z.length S.cap) 56)
  have hsz : (w.alloc (.cells #[.int .i64 (S.w : Int), .int .i64 (H : Int), .slice (some ⟨S.b, S.off, none⟩) S.Z.length S.cap] 56)).heap.size = w.heap.size + 1 := by simp
  clear hs h1c hl hcap
  obtain ⟨z0, z1, z2⟩ := T0.out.cells
  go_enter Tryz.func48, Tryz.ntmps48
  go_wp2_with (at_make; refine wpList_mkS _ rfl _ _ 78 rfl Tryz.underlying78 info56' _ _ S.w (by rfl) (by rfl) (by omega) ?_)
  intro wl arr0 harr0 hsz0 hbl
  generalize w.alloc _ = wa at *
  have TL := hid (T0.out.below hbl (Nat.lt_succ_self _))
  have HBL := hid (HA.out.trans (hbl.mono (Nat.le_succ _)))
  have HARR := hid harr0
  have CL0 : Hid (ClIn wl (w.heap.size + 1) S.w H S arr0 [] 0 wl.heap.size) := hid ⟨hsz0, rfl, fun i hi => absurd hi (Nat.not_lt_zero i)⟩
  clear harr0 hsz0 z0 z1 z2
  go_wp2_with fail
  go_loopw [11] (fun t wr => ∃ (c : Nat) (arr : Array Value) (Ts : List Sh), c ≤ S.w ∧ t = .int .i64 c ∧ Hid (Arr wr (w.heap.size + 1) arr 56) ∧ Hid (ClIn wr (w.heap.size + 1) S.w H S arr Ts c wr.heap.size) ∧ Hid (Tri wr w.heap.size (.int .i64 (S.w : Int)) (.int .i64 (H : Int)) (.slice (some ⟨S.b, S.off, none⟩) S.Z.length S.cap) 56) ∧ Hid (Below w.heap.size w wr)) (fun t _ => S.w - (intOf t).toNat)
  case atStart => exact ⟨0, arr0, [], by omega, rfl, HARR, CL0, TL, HBL⟩
  case round =>
    clear CL0 TL HBL HARR hbl
    obtain ⟨c, arr, Ts, hc, rfl, harr, hcl, htri, hb⟩ := hrel
    by_cases hlt : c < S.w
    · have hlt' : (c : Int) < (S.w : Int) := by omega
      obtain ⟨z0, z1, z2⟩ := htri.out.cells
      have hasz : arr.size = S.w * 3 := hcl.out.1
      have m0 : wr.cell? ⟨w.heap.size + 1, c * 3, none⟩ = some arr[c * 3] := by rw [harr.out.cell]; exact Array.getElem?_eq_getElem (by omega)
      have m1 : wr.cell? ⟨w.heap.size + 1, c * 3 + 1, none⟩ = some arr[c * 3 + 1] := by rw [harr.out.cell]; exact Array.getElem?_eq_getElem (by omega)
      have m2 : wr.cell? ⟨w.heap.size + 1, c * 3 + 2, none⟩ = some arr[c * 3 + 2] := by rw [harr.out.cell]; exact Array.getElem?_eq_getElem (by omega)
      have f0 := harr.out.free (c * 3)
      have f1 := harr.out.free (c * 3 + 1)
      have f2 := harr.out.free (c * 3 + 2)
      have AR := hid (((harr.out.set (c * 3) (.int .i64 1)).set (c * 3 + 1) (.int .i64 (H : Int))).set (c * 3 + 2) (.slice none 0 0))
      have KX := hid ((((Kx.refl wr.heap.size (w.heap.size + 1) wr).set (c * 3) (.int .i64 1)).set (c * 3 + 1) (.int .i64 (H : Int))).set (c * 3 + 2) (.slice none 0 0))
      have TW := hid (((htri.out.other (show w.heap.size ≠ w.heap.size + 1 by omega) (i := c * 3) (.int .i64 1)).other (show w.heap.size ≠ w.heap.size + 1 by omega) (i := c * 3 + 1) (.int .i64 (H : Int))).other (show w.heap.size ≠ w.heap.size + 1 by omega) (i := c * 3 + 2) (.slice none 0 0))
      have BW := hid (((hb.out.setCell (p := ⟨w.heap.size + 1, c * 3, none⟩) (show w.heap.size ≤ w.heap.size + 1 by omega) (.int .i64 1)).setCell (p := ⟨w.heap.size + 1, c * 3 + 1, none⟩) (show w.heap.size ≤ w.heap.size + 1 by omega) (.int .i64 (H : Int))).setCell (p := ⟨w.heap.size + 1, c * 3 + 2, none⟩) (show w.heap.size ≤ w.heap.size + 1 by omega) (.slice none 0 0))
      have HG1 := hid (show w.heap.size + 1 < wr.heap.size from harr.out.lt)
      generalize arr[c * 3] = A0 at *
      generalize arr[c * 3 + 1] = A1 at *
      generalize arr[c * 3 + 2] = A2 at *
      clear htri harr hb hasz
      go_wp2_with fail
      obtain ⟨Mc, hMc⟩ : ∃ Mc, Mc = wr.heap.size := ⟨_, rfl⟩
      have hcs : (((wr.setCell ⟨w.heap.size + 1, c * 3, none⟩ (.int .i64 1)).setCell ⟨w.heap.size + 1, c * 3 + 1, none⟩ (.int .i64 (H : Int))).setCell ⟨w.heap.size + 1, c * 3 + 2, none⟩ (.slice none 0 0)).heap.size = Mc := by rw [hMc]; simp
      rw [← hMc] at KX HG1
      generalize ((wr.setCell ⟨w.heap.size + 1, c * 3, none⟩ (.int .i64 1)).setCell ⟨w.heap.size + 1, c * 3 + 1, none⟩ (.int .i64 (H : Int))).setCell ⟨w.heap.size + 1, c * 3 + 2, none⟩ (.slice none 0 0) = wc at *
      have HCL := hid hcl.out
      rw [← hMc] at HCL
      have OZ0 : Hid (OwnZ wc Mc (.slice none 0 0) (colTo S c 0)) := hid ⟨by rw [hcs]; exact Nat.le_refl _, rfl, .inl ⟨rfl, rfl⟩⟩
      obtain ⟨a1, ha1⟩ : ∃ a1, a1 = (arr.setIfInBounds (c * 3) (.int .i64 1)).setIfInBounds (c * 3 + 1) (.int .i64 (H : Int)) := ⟨_, rfl⟩
      rw [← ha1] at AR
      have HA1 := hid ha1
      have HSA : Hid (a1.size = S.w * 3) := hid (by rw [ha1]; simp [hcl.out.1])
      have HCS := hid hcs
      clear ha1 hcs hcl m0 m1 m2 f0 f1 f2 z0 z1 z2
      generalize wr = WR at *
      go_loopw [22] (fun t wq => ∃ (r : Nat) (v : Value), r ≤ H ∧ t = .int .i64 r ∧ Hid (Arr wq (w.heap.size + 1) (a1.setIfInBounds (c * 3 + 2) v) 56) ∧ Hid (OwnZ wq Mc v (colTo S c r)) ∧ Hid (Kx Mc (w.heap.size + 1) wc wq) ∧ Hid (Below w.heap.size w wq)) (fun t _ => H - (intOf t).toNat)
      case atStart => exact ⟨0, _, by omega, rfl, AR, OZ0, hid (Kx.refl _ _ _), BW⟩
      case round =>
        clear OZ0 AR BW
        obtain ⟨r, v, hr, rfl, harr, hown, hkx, hb⟩ := hrel
        by_cases hrl : r < H
        · have hrl' : (r : Int) < (H : Int) := by omega
          go_wp2_with fail
          have hidx : r * S.w + c < S.Z.length := by
            rw [HL.out]
            have h1 : (r + 1) * S.w ≤ H * S.w := Nat.mul_le_mul_right _ hrl
            rw [Nat.succ_mul, Nat.mul_comm H] at h1
            omega
          have HROW := hid (fun q => row_any S.w (.int .i64 (H : Int)) S.b S.off S.Z.length S.cap r rfl q hW.1 hW.2 (by omega) (by rw [HL.out, Nat.mul_comm S.w]; exact Nat.mul_le_mul_right _ hrl) HCAP.out)
          have HBC0 := hid (fun q (hq : Below w.heap.size w q) => show q.cell? ⟨S.b, S.off + r * S.w * 2 + c * 2, none⟩ = some (.int .i64 (S.Z.getD (r * S.w + c) noZ).1.1) ∧ q.cell? ⟨S.b, S.off + r * S.w * 2 + c * 2 + 1, none⟩ = some (S.Z.getD (r * S.w + c) noZ).2 from by
            have h1 := flZ_at S.Z (r * S.w + c) hidx
            have h2 := (HS.out.below hq) _ _ h1.1
            have h3 := (HS.out.below hq) _ _ h1.2
            rw [Nat.add_mul, ← Nat.add_assoc] at h2
            rw [Nat.add_mul, ← Nat.add_assoc, ← Nat.add_assoc] at h3
            exact ⟨h2, h3⟩)
          have HONE := hid (H1C.out (S.Z.getD (r * S.w + c) noZ) (by simp [List.getD, hidx]))
          have HYY0 := hid (show colTo S c (r + 1) = colTo S c r ++ [S.Z.getD (r * S.w + c) noZ] from rfl)
          have HZL := hid (show (colTo S c r).length ≤ 1000 by rw [colTo_len]; omega)
          have HYY : Hid (wr.heap.size = wr.heap.size) := hid rfl
          have HARR := hid (fun q (hq : Ap Mc v wr q) => show Arr q (w.heap.size + 1) (a1.setIfInBounds (c * 3 + 2) v) 56 from (hq.2 _ harr.out.lt (fun e => by have := (hown.out.2.lt _ e).1; have := HG1.out; omega)).trans harr.out)
          have HCELL := hid (fun q (hq : Ap Mc v wr q) => show q.cell? ⟨w.heap.size + 1, c * 3 + 2, none⟩ = some v from by
            rw [(HARR.out q hq).cell]
            exact Array.getElem?_setIfInBounds_self_of_lt (by rw [HSA.out]; omega))
          have HTRI := hid (fun q (hq : Ap Mc v wr q) => hq.tri (show Tri wr w.heap.size (.int .i64 (S.w : Int)) (.int .i64 (H : Int)) (.slice (some ⟨S.b, S.off, none⟩) S.Z.length S.cap) 56 from (hkx.out.2 w.heap.size (by have := HG1.out; omega) (by omega)).trans TW.out) (fun e => by have := (hown.out.2.lt _ e).1; have := HG1.out; omega))
          have HBC := hid (fun q (hq : Ap Mc v wr q) => HBC0.out q (hb.out.trans (hq.1.mono (show w.heap.size ≤ Mc by have := HG1.out; omega))))
          have HVL := hid (fun g hg => (hown.out.2.lt g hg).2)
          have OV := hid hown.out
          have HBS := hid (show Mc ≤ wr.heap.size from hown.out.1)
          clear HYY HBC0 hidx
          generalize hz0 : (S.Z.getD (r * S.w + c) noZ).1.1 = d at *
          generalize hy0 : (S.Z.getD (r * S.w + c) noZ).2 = y at *
          have HYY := hid (show flZ (colTo S c (r + 1)) = flZ (colTo S c r) ++ [.int .i64 d, y] by rw [HYY0.out, flZ_app, ← hz0, ← hy0]; rfl)
          have HYL := hid (show (colTo S c (r + 1)).length = (colTo S c r).length + 1 by rw [colTo_len, colTo_len])
          have HYW := hid (show ∀ (w2 : World) (v2 : Value), w2.ownsRow Mc 65 2 v2 ((colTo S c r).length + 1) (flZ (colTo S c r) ++ [.int .i64 d, y]) → w2.ownsRow Mc 65 2 v2 (colTo S c (r + 1)).length (flZ (colTo S c (r + 1))) from fun w2 v2 h => by rw [HYY.out, HYL.out]; exact h)
          clear hz0 hy0 HYY0
          generalize hYYe : colTo S c (r + 1) = YY at *
          have HYE := hid hYYe
          clear hYYe
          generalize colTo S c r = ZZ at *
          refine wp_region_any (by kernel_rfl) ?_
          refine wpAny_inv (fun listed ac wq => ∃ u : Nat → Value, ac = { tmps := #[.agg #[.int .i64 (S.w : Int), .int .i64 (H : Int), .slice (some ⟨S.b, S.off, none⟩) S.Z.length S.cap], .pointer (some ⟨w.heap.size, 0, none⟩), .slice none 0 0, .slice (some ⟨w.heap.size + 1, 0, none⟩) S.w S.w, .int .i64 (c : Int), .int .i64 (r : Int), .pointer (some ⟨w.heap.size, 0, none⟩), .int .i64 (S.w : Int), .slice (some ⟨w.heap.size + 1, 0, none⟩) S.w S.w, .slice (some ⟨w.heap.size + 1, 0, none⟩) S.w S.w, .int .i64 (S.w : Int), .int .i64 (c : Int), .bool true, .int .i64 (c : Int), .slice (some ⟨w.heap.size + 1, 0, none⟩) S.w S.w, .int .i64 (c : Int), .pointer (some ⟨w.heap.size, 1, none⟩), .int .i64 (H : Int), .agg #[.int .i64 1, .int .i64 (H : Int), .slice none 0 0], .pointer (some ⟨w.heap.size + 1, c * 3, none⟩), .pointer (some ⟨w.heap.size, 1, none⟩), .int .i64 (H : Int), .int .i64 (r : Int), .bool true, .int .i64 (r : Int), u 25, u 26, u 27, u 28, u 29, u 30, u 31, u 32, u 33, u 34, u 35, u 36, u 37, u 38, u 39, u 40, u 41, u42, u43, undef], defers := [] } ∧ (Inv2 17 (VL (.slice (some ⟨w.heap.size + 1, 0, none⟩) S.w S.w) (.int .i64 (c : Int)) (.pointer (some ⟨w.heap.size + 1, c * 3, none⟩)) (.pointer (some ⟨w.heap.size + 1, c * 3 + 2, none⟩)) v (.agg #[.int .i64 (S.w : Int), .int .i64 (H : Int), .slice (some ⟨S.b, S.off, none⟩) S.Z.length S.cap]) (.int .i64 (r : Int)) (.slice (some ⟨S.b, S.off + r * S.w * 2, none⟩) S.w (S.cap - r * S.w)) (.pointer (some ⟨S.b, S.off + r * S.w * 2 + c * 2, none⟩)) (.agg #[.int .i64 d, y]) d y Mc YY) DL (fun q => Ap Mc v wr q) (fun _ => True) (fun listed u q => Arr q (w.heap.size + 1) (a1.setIfInBounds (c * 3 + 2) (u 39)) 56 ∧ OwnZ q Mc (u 39) YY ∧ Kx Mc (w.heap.size + 1) wr q ∧ Below w.heap.size wr q) listed u wq ∧ (listed.getD 14 false = false → OwnZ wq Mc v ZZ))) ?hpre ?hstep ?hend _ _ _ _ rfl (by decide) (fun j oj _ hl => absurd hl (by simp [Array.getD])) ⟨upd (upd (upd (upd (upd (upd (upd (upd (upd (upd (upd (upd (upd (upd (upd (upd (upd (fun _ => undef) 25 u25) 26 u26) 27 u27) 28 u28) 29 u29) 30 u30) 31 u31) 32 u32) 33 u33) 34 u34) 35 u35) 36 u36) 37 u37) 38 u38) 39 u39) 40 u40) 41 u41, by simp [upd], ⟨fun _ => ⟨⟨(Below.refl _ _).drew, fun g _ _ => rfl⟩, trivial, fun j _ hl => absurd hl (by simp [Array.getD])⟩, fun h => absurd h (by simp [Array.getD])⟩, fun _ => OV.out.below (Below.refl _ _).drew⟩
          case hpre => exact pre_of (by kernel_rfl)
          case hend =>
            rintro listed ac wq hall ⟨u, rfl, hI⟩
            obtain ⟨fa, fo, fk, fb⟩ := hI.1.2 (hall 17 (by decide))
            have FA := hid fa
            have FO := hid fo
            have FK := hid (hkx.out.trans fk)
            have FB := hid (hb.out.trans fb)
            clear hI fa fo fk fb
            go_wp2_with fail
            go_roundw
            case rel => exact ⟨r + 1, u 39, by omega, by go_num, FA, hid (by rw [HYE.out]; exact FO.out), FK, FB⟩
            case measure =>
              simp only [intOf]
              omega
          case hstep =>
            rintro listed ac wq i oo hszl ⟨u, rfl, hI⟩ ho hall hun hcl2
            have hin : i < 18 := (Array.getElem?_eq_some_iff.1 ho).1
            have HNS : Hid (i < 17 → listed.getD 17 false = false) := hid (fun hi => by
              cases hl : listed.getD 17 false with
              | false => rfl
              | true =>
                exfalso
                have l16 := hcl2 17 _ rfl hl ⟨16, .data⟩ (by simp) rfl
                have l15 := hcl2 16 _ rfl l16 ⟨15, .data⟩ (by simp) rfl
                obtain rfl | rfl | rfl | rfl | rfl | rfl | rfl | rfl | rfl | rfl | rfl | rfl | rfl | rfl | rfl | rfl | rfl : i = 0 ∨ i = 1 ∨ i = 2 ∨ i = 3 ∨ i = 4 ∨ i = 5 ∨ i = 6 ∨ i = 7 ∨ i = 8 ∨ i = 9 ∨ i = 10 ∨ i = 11 ∨ i = 12 ∨ i = 13 ∨ i = 14 ∨ i = 15 ∨ i = 16 := by omega
                · exact getD_ft (hcl2 17 _ rfl hl ⟨0, .phase⟩ (by simp) rfl) hun
                · exact getD_ft (hcl2 17 _ rfl hl ⟨1, .phase⟩ (by simp) rfl) hun
                · exact getD_ft (hcl2 17 _ rfl hl ⟨2, .phase⟩ (by simp) rfl) hun
                · exact getD_ft (hcl2 17 _ rfl hl ⟨3, .phase⟩ (by simp) rfl) hun
                · exact getD_ft (hcl2 17 _ rfl hl ⟨4, .phase⟩ (by simp) rfl) hun
                · exact getD_ft (hcl2 17 _ rfl hl ⟨5, .phase⟩ (by simp) rfl) hun
                · exact getD_ft (hcl2 17 _ rfl hl ⟨6, .phase⟩ (by simp) rfl) hun
                · exact getD_ft (hcl2 17 _ rfl hl ⟨7, .phase⟩ (by simp) rfl) hun
                · exact getD_ft (hcl2 17 _ rfl hl ⟨8, .phase⟩ (by simp) rfl) hun
                · exact getD_ft (hcl2 17 _ rfl hl ⟨9, .phase⟩ (by simp) rfl) hun
                · exact getD_ft (hcl2 17 _ rfl hl ⟨10, .phase⟩ (by simp) rfl) hun
                · exact getD_ft (hcl2 17 _ rfl hl ⟨11, .phase⟩ (by simp) rfl) hun
                · exact getD_ft (hcl2 17 _ rfl hl ⟨12, .phase⟩ (by simp) rfl) hun
                · exact getD_ft (hcl2 17 _ rfl hl ⟨13, .phase⟩ (by simp) rfl) hun
                · exact getD_ft (hcl2 17 _ rfl hl ⟨14, .phase⟩ (by simp) rfl) hun
                · exact getD_ft l15 hun
                · exact getD_ft l16 hun)
            have ST : Hid (listed.getD 17 false = false → Facts 17 (VL (.slice (some ⟨w.heap.size + 1, 0, none⟩) S.w S.w) (.int .i64 (c : Int)) (.pointer (some ⟨w.heap.size + 1, c * 3, none⟩)) (.pointer (some ⟨w.heap.size + 1, c * 3 + 2, none⟩)) v (.agg #[.int .i64 (S.w : Int), .int .i64 (H : Int), .slice (some ⟨S.b, S.off, none⟩) S.Z.length S.cap]) (.int .i64 (r : Int)) (.slice (some ⟨S.b, S.off + r * S.w * 2, none⟩) S.w (S.cap - r * S.w)) (.pointer (some ⟨S.b, S.off + r * S.w * 2 + c * 2, none⟩)) (.agg #[.int .i64 d, y]) d y Mc YY) DL listed u wq → i < 17 → i ≠ 14 → ∀ (wz : World) (v' : Value), Below wq.heap.size wq wz → (VL (.slice (some ⟨w.heap.size + 1, 0, none⟩) S.w S.w) (.int .i64 (c : Int)) (.pointer (some ⟨w.heap.size + 1, c * 3, none⟩)) (.pointer (some ⟨w.heap.size + 1, c * 3 + 2, none⟩)) v (.agg #[.int .i64 (S.w : Int), .int .i64 (H : Int), .slice (some ⟨S.b, S.off, none⟩) S.Z.length S.cap]) (.int .i64 (r : Int)) (.slice (some ⟨S.b, S.off + r * S.w * 2, none⟩) S.w (S.cap - r * S.w)) (.pointer (some ⟨S.b, S.off + r * S.w * 2 + c * 2, none⟩)) (.agg #[.int .i64 d, y]) d y Mc YY) i v' wz → (Inv2 17 (VL (.slice (some ⟨w.heap.size + 1, 0, none⟩) S.w S.w) (.int .i64 (c : Int)) (.pointer (some ⟨w.heap.size + 1, c * 3, none⟩)) (.pointer (some ⟨w.heap.size + 1, c * 3 + 2, none⟩)) v (.agg #[.int .i64 (S.w : Int), .int .i64 (H : Int), .slice (some ⟨S.b, S.off, none⟩) S.Z.length S.cap]) (.int .i64 (r : Int)) (.slice (some ⟨S.b, S.off + r * S.w * 2, none⟩) S.w (S.cap - r * S.w)) (.pointer (some ⟨S.b, S.off + r * S.w * 2 + c * 2, none⟩)) (.agg #[.int .i64 d, y]) d y Mc YY) DL (fun q => Ap Mc v wr q) (fun _ => True) (fun listed u q => Arr q (w.heap.size + 1) (a1.setIfInBounds (c * 3 + 2) (u 39)) 56 ∧ OwnZ q Mc (u 39) YY ∧ Kx Mc (w.heap.size + 1) wr q ∧ Below w.heap.size wr q) (listed.setIfInBounds i true) (upd u (DL i) v') wz ∧ ((listed.setIfInBounds i true).getD 14 false = false → OwnZ wz Mc v ZZ))) := hid (fun h1 h2 hi h5 wz v' hbz hv => ⟨Inv2.step i v' h1 h2 hi ((hI.1.1 h1).1.below HBS.out hbz) trivial (fun j hj hne => by unfold DL; omega) (fun j x hj h => VL.below hbz j hj x h) hv, fun h => by
              rw [getD_set_ne false h5] at h
              exact (hI.2 h).below hbz⟩)
            obtain rfl | rfl | rfl | rfl | rfl | rfl | rfl | rfl | rfl | rfl | rfl | rfl | rfl | rfl | rfl | rfl | rfl | rfl : i = 0 ∨ i = 1 ∨ i = 2 ∨ i = 3 ∨ i = 4 ∨ i = 5 ∨ i = 6 ∨ i = 7 ∨ i = 8 ∨ i = 9 ∨ i = 10 ∨ i = 11 ∨ i = 12 ∨ i = 13 ∨ i = 14 ∨ i = 15 ∨ i = 16 ∨ i = 17 := by omega
            · cases ho
              have hns := HNS.out (by decide)
              obtain ⟨hA, hX, hF⟩ := hI.1.1 hns
              refine wpOp_step rfl (fun K hK => ?_)
              go_simp
              refine hK _ _ ⟨upd u 25 (.slice (some ⟨w.heap.size + 1, 0, none⟩) S.w S.w), ?_, ST.out hns hF (by decide) (by decide) _ _ (Below.refl _ _) (rfl)⟩
              simp [upd]
            · cases ho
              have hns := HNS.out (by decide)
              obtain ⟨hA, hX, hF⟩ := hI.1.1 hns
              refine wpOp_step rfl (fun K hK => ?_)
              go_simp
              refine hK _ _ ⟨upd u 26 (.int .i64 (c : Int)), ?_, ST.out hns hF (by decide) (by decide) _ _ (Below.refl _ _) (rfl)⟩
              simp [upd]
            · cases ho
              have hns := HNS.out (by decide)
              obtain ⟨hA, hX, hF⟩ := hI.1.1 hns
              refine wpOp_step rfl (fun K hK => ?_)
              go_simp
              refine hK _ _ ⟨upd u 27 (.slice (some ⟨w.heap.size + 1, 0, none⟩) S.w S.w), ?_, ST.out hns hF (by decide) (by decide) _ _ (Below.refl _ _) (rfl)⟩
              simp [upd]
            · cases ho
              have hns := HNS.out (by decide)
              obtain ⟨hA, hX, hF⟩ := hI.1.1 hns
              refine wpOp_step rfl (fun K hK => ?_)
              go_simp
              refine hK _ _ ⟨upd u 28 (.int .i64 (c : Int)), ?_, ST.out hns hF (by decide) (by decide) _ _ (Below.refl _ _) (rfl)⟩
              simp [upd]
            · cases ho
              have hns := HNS.out (by decide)
              obtain ⟨hA, hX, hF⟩ := hI.1.1 hns
              have f2 : u 27 = .slice (some ⟨w.heap.size + 1, 0, none⟩) S.w S.w := hF 2 (by decide) (hall ⟨2, .data⟩ (by simp) rfl)
              have f3 : u 28 = .int .i64 (c : Int) := hF 3 (by decide) (hall ⟨3, .data⟩ (by simp) rfl)
              refine wpOp_step rfl (fun K hK => ?_)
              simp only [f2, f3]
              go_simp
              refine hK _ _ ⟨upd u 29 (.pointer (some ⟨w.heap.size + 1, c * 3, none⟩)), ?_, ST.out hns hF (by decide) (by decide) _ _ (Below.refl _ _) (rfl)⟩
              simp [upd, f2, f3]
            · cases ho
              have hns := HNS.out (by decide)
              obtain ⟨hA, hX, hF⟩ := hI.1.1 hns
              have f4 : u 29 = .pointer (some ⟨w.heap.size + 1, c * 3, none⟩) := hF 4 (by decide) (hall ⟨4, .data⟩ (by simp) rfl)
              refine wpOp_step rfl (fun K hK => ?_)
              simp only [f4]
              go_simp
              refine hK _ _ ⟨upd u 30 (.pointer (some ⟨w.heap.size + 1, c * 3 + 2, none⟩)), ?_, ST.out hns hF (by decide) (by decide) _ _ (Below.refl _ _) (rfl)⟩
              simp [upd, f4]
            · cases ho
              have hns := HNS.out (by decide)
              obtain ⟨hA, hX, hF⟩ := hI.1.1 hns
              have f5 : u 30 = .pointer (some ⟨w.heap.size + 1, c * 3 + 2, none⟩) := hF 5 (by decide) (hall ⟨5, .data⟩ (by simp) rfl)
              have g0 := HCELL.out _ hA
              refine wpOp_step rfl (fun K hK => ?_)
              simp only [f5]
              go_simp
              refine hK _ _ ⟨upd u 31 (v), ?_, ST.out hns hF (by decide) (by decide) _ _ (Below.refl _ _) (rfl)⟩
              simp [upd, f5]
            · cases ho
              have hns := HNS.out (by decide)
              obtain ⟨hA, hX, hF⟩ := hI.1.1 hns
              obtain ⟨g0, g1, g2⟩ := (HTRI.out _ hA).cells
              refine wpOp_step rfl (fun K hK => ?_)
              go_simp
              refine hK _ _ ⟨upd u 32 (.agg #[.int .i64 (S.w : Int), .int .i64 (H : Int), .slice (some ⟨S.b, S.off, none⟩) S.Z.length S.cap]), ?_, ST.out hns hF (by decide) (by decide) _ _ (Below.refl _ _) (rfl)⟩
              simp [upd]
            · cases ho
              have hns := HNS.out (by decide)
              obtain ⟨hA, hX, hF⟩ := hI.1.1 hns
              refine wpOp_step rfl (fun K hK => ?_)
              go_simp
              refine hK _ _ ⟨upd u 33 (.int .i64 (r : Int)), ?_, ST.out hns hF (by decide) (by decide) _ _ (Below.refl _ _) (rfl)⟩
              simp [upd]
            · cases ho
              have hns := HNS.out (by decide)
              obtain ⟨hA, hX, hF⟩ := hI.1.1 hns
              have f7 : u 32 = .agg #[.int .i64 (S.w : Int), .int .i64 (H : Int), .slice (some ⟨S.b, S.off, none⟩) S.Z.length S.cap] := hF 7 (by decide) (hall ⟨7, .data⟩ (by simp) rfl)
              have f8 : u 33 = .int .i64 (r : Int) := hF 8 (by decide) (hall ⟨8, .data⟩ (by simp) rfl)
              refine wpOp_step rfl (fun K hK => ?_)
              simp only [f7, f8]
              go_simp
              refine (HROW.out wq).mono ?_
              rintro e w3 ⟨rfl, hb3⟩
              refine hK _ _ ⟨upd u 34 (.slice (some ⟨S.b, S.off + r * S.w * 2, none⟩) S.w (S.cap - r * S.w)), ?_, ST.out hns hF (by decide) (by decide) w3 _ hb3 (rfl)⟩
              simp [upd, f7, f8]
            · cases ho
              have hns := HNS.out (by decide)
              obtain ⟨hA, hX, hF⟩ := hI.1.1 hns
              refine wpOp_step rfl (fun K hK => ?_)
              go_simp
              refine hK _ _ ⟨upd u 35 (.int .i64 (c : Int)), ?_, ST.out hns hF (by decide) (by decide) _ _ (Below.refl _ _) (rfl)⟩
              simp [upd]
            · cases ho
              have hns := HNS.out (by decide)
              obtain ⟨hA, hX, hF⟩ := hI.1.1 hns
              have f9 : u 34 = .slice (some ⟨S.b, S.off + r * S.w * 2, none⟩) S.w (S.cap - r * S.w) := hF 9 (by decide) (hall ⟨9, .data⟩ (by simp) rfl)
              have f10 : u 35 = .int .i64 (c : Int) := hF 10 (by decide) (hall ⟨10, .data⟩ (by simp) rfl)
              refine wpOp_step rfl (fun K hK => ?_)
              simp only [f9, f10]
              go_simp
              refine hK _ _ ⟨upd u 36 (.pointer (some ⟨S.b, S.off + r * S.w * 2 + c * 2, none⟩)), ?_, ST.out hns hF (by decide) (by decide) _ _ (Below.refl _ _) (rfl)⟩
              simp [upd, f9, f10]
            · cases ho
              have hns := HNS.out (by decide)
              obtain ⟨hA, hX, hF⟩ := hI.1.1 hns
              have f11 : u 36 = .pointer (some ⟨S.b, S.off + r * S.w * 2 + c * 2, none⟩) := hF 11 (by decide) (hall ⟨11, .data⟩ (by simp) rfl)
              obtain ⟨g0, g1⟩ := HBC.out _ hA
              refine wpOp_step rfl (fun K hK => ?_)
              simp only [f11]
              go_simp
              refine hK _ _ ⟨upd u 37 (.agg #[.int .i64 d, y]), ?_, ST.out hns hF (by decide) (by decide) _ _ (Below.refl _ _) (rfl)⟩
              simp [upd, f11]
            · cases ho
              have hns := HNS.out (by decide)
              obtain ⟨hA, hX, hF⟩ := hI.1.1 hns
              have f12 : u 37 = .agg #[.int .i64 d, y] := hF 12 (by decide) (hall ⟨12, .data⟩ (by simp) rfl)
              refine wpOp_step rfl (fun K hK => ?_)
              simp only [f12]
              go_simp
              refine hK _ _ ⟨upd u 38 (.slice (some ⟨wq.heap.size, 0, none⟩) 1 1), ?_, ST.out hns hF (by decide) (by decide) _ _ ((Below.refl _ _).alloc (Nat.le_refl _) _) (⟨_, rfl, Two.new _ _ _ _, fun e => by have := HVL.out _ e; have := hA.1.size; omega⟩)⟩
              simp [upd, f12]
            · cases ho
              have hns := HNS.out (by decide)
              obtain ⟨hA, hX, hF⟩ := hI.1.1 hns
              have h14 : listed.getD 14 false = false := by
                cases h : listed.getD 14 false with
                | false => rfl
                | true => exact absurd hun (fun h' => getD_ft h h')
              have f6 : u 31 = v := hF 6 (by decide) (hall ⟨6, .data⟩ (by simp) rfl)
              obtain ⟨g13, f13, t13, n13⟩ : ∃ g, u 38 = .slice (some ⟨g, 0, none⟩) 1 1 ∧ Two wq g (.int .i64 d) y 65 ∧ v.ownBlock ≠ some g := hF 13 (by decide) (hall ⟨13, .data⟩ (by simp) rfl)
              have ow := hI.2 h14
              obtain ⟨ti, hi, hz0, hz1, hz2⟩ := info_parts Tryz.info65
              obtain ⟨c0', c1', _, _⟩ := t13.cells
              refine wpOp_step rfl (fun K hK => ?_)
              rw [if_pos (by simp [Region.wanted])]
              refine wp_append_own wq (.tmp 31) (.tmp 38) 34 rfl Mc 65 ti (.agg #[.int .i64 0, .slice none 0 0]) 2 32 Tryz.underlying34 hi hz0 hz1 hz2 rfl (by decide) v ZZ.length _ f6 ow.2 ⟨g13, 0, none⟩ 1 1 [.int .i64 d, y] f13 rfl ?_ ?_ (by unfold maxLen; have := HZL.out; omega) (by have := HZL.out; omega) ow.1 ?_
              · intro j q hj
                match j, hj with
                | 0, hj => simp at hj; subst hj; simpa [Addr.add] using c0'
                | 1, hj => simp at hj; subst hj; simpa [Addr.add] using c1'
              · intro q hq
                simp at hq
                rcases hq with rfl | rfl
                · rfl
                · exact HONE.out
              · intro v2 w2 hown2 hgrow _
                have ow2 : OwnZ w2 Mc v2 YY := ⟨Nat.le_trans ow.1 hgrow.size, HYW.out w2 v2 hown2⟩
                have hk : ∀ g, g < wq.heap.size → v.ownBlock ≠ some g → w2.heap[g]? = wq.heap[g]? := fun g hg hn => hgrow.block g hg (fun e => hn e.symm)
                have hA2 : Ap Mc v wr w2 := ⟨hA.1.trans ((Below.refl _ wq).grown hgrow ow.1 (fun g hg => (ow.2.lt g hg).1)), fun g hg hn => (hk g (Nat.lt_of_lt_of_le hg hA.1.size) hn).trans (hA.2 g hg hn)⟩
                refine hK _ _ ⟨upd u 39 v2, ?_, ⟨⟨fun _ => ⟨hA2, trivial, hF.step3 14 v2 (fun j _ hne => by unfold DL; omega) (fun j hj hne x h => VL.grown hk j hj hne x h) ow2⟩, fun h => ?_⟩, fun h => ?_⟩⟩
                · simp [upd, Act.put]
                · rw [getD_set_ne false (by decide), hns] at h
                  cases h
                · exfalso
                  rw [show (listed.setIfInBounds 14 true).getD 14 false = true by simp [Array.getD, hszl]] at h
                  cases h
            · cases ho
              have hns := HNS.out (by decide)
              obtain ⟨hA, hX, hF⟩ := hI.1.1 hns
              have f0 : u 25 = .slice (some ⟨w.heap.size + 1, 0, none⟩) S.w S.w := hF 0 (by decide) (hall ⟨0, .data⟩ (by simp) rfl)
              have f1 : u 26 = .int .i64 (c : Int) := hF 1 (by decide) (hall ⟨1, .data⟩ (by simp) rfl)
              refine wpOp_step rfl (fun K hK => ?_)
              simp only [f0, f1]
              go_simp
              refine hK _ _ ⟨upd u 40 (.pointer (some ⟨w.heap.size + 1, c * 3, none⟩)), ?_, ST.out hns hF (by decide) (by decide) _ _ (Below.refl _ _) (rfl)⟩
              simp [upd, f0, f1]
            · cases ho
              have hns := HNS.out (by decide)
              obtain ⟨hA, hX, hF⟩ := hI.1.1 hns
              have f15 : u 40 = .pointer (some ⟨w.heap.size + 1, c * 3, none⟩) := hF 15 (by decide) (hall ⟨15, .data⟩ (by simp) rfl)
              refine wpOp_step rfl (fun K hK => ?_)
              simp only [f15]
              go_simp
              refine hK _ _ ⟨upd u 41 (.pointer (some ⟨w.heap.size + 1, c * 3 + 2, none⟩)), ?_, ST.out hns hF (by decide) (by decide) _ _ (Below.refl _ _) (rfl)⟩
              simp [upd, f15]
            · cases ho
              have hns : listed.getD 17 false = false := by
                cases h : listed.getD 17 false with
                | false => rfl
                | true => exact absurd hun (fun h' => getD_ft h h')
              obtain ⟨hA, hX, hF⟩ := hI.1.1 hns
              have f16 : u 41 = .pointer (some ⟨w.heap.size + 1, c * 3 + 2, none⟩) := hF 16 (by decide) (hall ⟨16, .data⟩ (by simp) rfl)
              have ow : OwnZ wq Mc (u 39) YY := hF 14 (by decide) (hall ⟨14, .data⟩ (by simp) rfl)
              have h14 : listed.getD 14 false = true := hall ⟨14, .data⟩ (by simp) rfl
              have AQ := HARR.out _ hA
              have g0 := HCELL.out _ hA
              have gz := AQ.free (c * 3 + 2)
              obtain ⟨yo, yc, hy⟩ := ow.shape
              rw [HYL.out] at hy
              have FA := hid (AQ.set (c * 3 + 2) (u 39))
              have FO := hid (ow.setCell_below (a := ⟨w.heap.size + 1, c * 3 + 2, none⟩) (show w.heap.size + 1 < Mc from HG1.out) (u 39))
              have FK := hid ((Kx.ofBelow (M := Mc) (G := w.heap.size + 1) hA.1).set (c * 3 + 2) (u 39))
              have FB := hid ((hA.1.mono (show w.heap.size ≤ Mc by have := HG1.out; omega)).setCell (p := ⟨w.heap.size + 1, c * 3 + 2, none⟩) (show w.heap.size ≤ w.heap.size + 1 by omega) (u 39))
              clear AQ ow
              rw [hy] at FA FO FK FB
              refine wpOp_step rfl (fun K hK => ?_)
              simp only [f16, hy]
              go_simp
              refine hK _ _ ⟨u, ?_, ⟨⟨fun h => ?_, fun _ => by simp only [hy]; exact ⟨by simpa using FA.out, FO.out, FK.out, FB.out⟩⟩, fun h => ?_⟩⟩
              · simp [f16, hy]
              · exfalso
                rw [show (listed.setIfInBounds 17 true).getD 17 false = true by simp [Array.getD, hszl]] at h
                cases h
              · rw [getD_set_ne false (by decide), h14] at h
                cases h
        · obtain rfl : r = H := by omega
          obtain ⟨b, cap, hv, hbM, hHc, hcells⟩ : ∃ b cap, v = .slice (some ⟨b, 0, none⟩) r cap ∧ Mc ≤ b ∧ r ≤ cap ∧ ShIn wr ⟨1, colTo S c r, b, 0, cap⟩ := by
            have hz := hown.out
            rcases hz.2.2 with ⟨_, h0⟩ | ⟨g, cp, cur, hv, hg, hh, hle, hmx, hss, htk⟩
            · rw [colTo_len] at h0
              omega
            · rw [colTo_len] at hv hle
              refine ⟨g, cp, hv, hg, hle, fun j u hu => ?_⟩
              show wr.cell? ⟨g, 0 + j, none⟩ = _
              rw [cell_of_row wr g (0 + j) _ 65 (0, 0) hh]
              rw [← htk, List.getElem?_take] at hu
              split at hu
              · simpa using hu
              · cases hu
          subst hv
          have hbl : b < wr.heap.size := (hown.out.2.lt b rfl).2
          have hGw : w.heap.size + 1 < Mc := HG1.out
          have hMw : Mc ≤ wr.heap.size := hown.out.1
          have CN := hid (HCL.out.step (KX.out.trans hkx.out) hMw hlt b cap hbl (by omega) hHc hcells)
          rw [← HA1.out] at CN
          have TN : Hid (Tri wr w.heap.size (.int .i64 (S.w : Int)) (.int .i64 (r : Int)) (.slice (some ⟨S.b, S.off, none⟩) S.Z.length S.cap) 56) := hid ((hkx.out.2 w.heap.size (by omega) (by omega)).trans TW.out)
          clear hcells hbl hMw hGw hbM
          go_wp2_with fail
          go_roundw
          case rel => exact ⟨c + 1, _, _, by omega, by go_num, harr, CN, TN, hb⟩
          case measure =>
            simp only [intOf]
            omega
    · obtain rfl : c = S.w := by omega
      go_wp2_with fail
      go_ret
      exact ⟨_, arr, Ts, rfl, harr.out, hcl.out, hb.out⟩
end Go.Proofs.YtnnakmgngkpghaaGreat
