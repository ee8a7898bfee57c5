/- Sheets side by side, plain: rows of blocks, each with the value that stands for its numbers. -/
import Derived.Test.YtnnakmgngkpghaaGreatThi
namespace Go.Proofs.YtnnakmgngkpghaaGreat
open Go.RowKit Go.Maps
set_option linter.unusedVariables false

/-- A block and the slice of its numbers, as cells. -/
def flZ : List ((Int × List Int) × Value) → List Value
  | [] => []
  | z :: zs => .int .i64 z.1.1 :: z.2 :: flZ zs
theorem flZ_len : ∀ Z, (flZ Z).length = Z.length * 2
  | [] => rfl
  | z :: zs => by
    rw [flZ, List.length_cons, List.length_cons, flZ_len zs, List.length_cons]
    omega
theorem flZ_app : ∀ Z Y, flZ (Z ++ Y) = flZ Z ++ flZ Y
  | [], Y => rfl
  | z :: zs, Y => by rw [List.cons_append, flZ, flZ, flZ_app zs Y]; rfl
theorem flZ_drop : ∀ (Z : List ((Int × List Int) × Value)) (k : Nat), flZ (Z.drop k) = (flZ Z).drop (k * 2)
  | Z, 0 => by simp
  | [], k + 1 => by simp [flZ]
  | z :: zs, k + 1 => by
    rw [List.drop_succ_cons, flZ_drop zs k, flZ, show (k + 1) * 2 = k * 2 + 1 + 1 by omega, List.drop_succ_cons, List.drop_succ_cons]
theorem flZ_take : ∀ (Z : List ((Int × List Int) × Value)) (k : Nat), flZ (Z.take k) = (flZ Z).take (k * 2)
  | Z, 0 => by simp [flZ]
  | [], k + 1 => by simp [flZ]
  | z :: zs, k + 1 => by
    rw [List.take_succ_cons, flZ, flZ_take zs k, flZ, show (k + 1) * 2 = k * 2 + 1 + 1 by omega, List.take_succ_cons, List.take_succ_cons]
theorem flZ_one : ∀ (Z : List ((Int × List Int) × Value)), (∀ z ∈ Z, z.2.oneCell' = true) → ∀ u ∈ flZ Z, u.oneCell' = true
  | [], _, u, hu => by simp [flZ] at hu
  | z :: zs, h, u, hu => by
    rw [flZ, List.mem_cons, List.mem_cons] at hu
    rcases hu with rfl | rfl | hu
    · rfl
    · exact h z (List.mem_cons_self ..)
    · exact flZ_one zs (fun y hy => h y (List.mem_cons_of_mem _ hy)) u hu
/-- A row of such blocks that is the call's own. -/
def OwnZ (w : World) (base : Nat) (v : Value) (Z : List ((Int × List Int) × Value)) : Prop := base ≤ w.heap.size ∧ w.ownsRow base 65 2 v Z.length (flZ Z)
theorem OwnZ.below {w w' : World} {base : Nat} {v : Value} {Z : List ((Int × List Int) × Value)} (h : OwnZ w base v Z) (hb : Below w.heap.size w w') : OwnZ w' base v Z := by
  refine ⟨Nat.le_trans h.1 hb.size, h.2.1, ?_⟩
  rcases h.2.2 with h0 | ⟨g, cap, cur, hv, hg, hh, r⟩
  · exact .inl h0
  · exact .inr ⟨g, cap, cur, hv, hg, (hb.block g (Array.getElem?_eq_some_iff.1 hh).1).trans hh, r⟩
theorem OwnZ.mono {w : World} {base base' : Nat} {v : Value} {Z : List ((Int × List Int) × Value)} (h : OwnZ w base v Z) (hb : base' ≤ base) : OwnZ w base' v Z := by
  refine ⟨Nat.le_trans hb h.1, h.2.1, ?_⟩
  rcases h.2.2 with h0 | ⟨g, cap, cur, hv, hg, r⟩
  · exact .inl h0
  · exact .inr ⟨g, cap, cur, hv, by omega, r⟩
theorem OwnZ.shape {w : World} {base : Nat} {v : Value} {Z : List ((Int × List Int) × Value)} (h : OwnZ w base v Z) : ∃ ao cap, v = .slice ao Z.length cap := by
  rcases h.2.2 with ⟨rfl, h0⟩ | ⟨g, cap, cur, rfl, _⟩
  · exact ⟨none, 0, by rw [h0]⟩
  · exact ⟨_, _, rfl⟩
theorem OwnZ.setCell_below {w : World} {base : Nat} {v : Value} {Z : List ((Int × List Int) × Value)} (h : OwnZ w base v Z) {a : Addr} (ha : a.block < base) (u : Value) : OwnZ (w.setCell a u) base v Z := by
  refine ⟨by simpa using h.1, h.2.1, ?_⟩
  rcases h.2.2 with h0 | ⟨g, cap, cur, hv, hg, hh, r⟩
  · exact .inl h0
  · refine .inr ⟨g, cap, cur, hv, hg, ?_, r⟩
    rw [heap_setCell_other _ a g _ (by omega)]
    exact hh
/-- A sheet: its width and its blocks, and where they lie. -/
structure Sh where
  w : Nat
  Z : List ((Int × List Int) × Value)
  b : Nat
  off : Nat
  cap : Nat
def noSh : Sh := ⟨0, [], 0, 0, 0⟩
def nthSh (Ss : List Sh) (i : Nat) : Sh := Ss.getD i noSh
/-- One row of a sheet. -/
def rowZ (S : Sh) (r : Nat) : List ((Int × List Int) × Value) := (S.Z.drop (r * S.w)).take S.w
/-- The r-th rows of the first k sheets. -/
def bandTo (Ss : List Sh) (r : Nat) : Nat → List ((Int × List Int) × Value)
  | 0 => []
  | k + 1 => bandTo Ss r k ++ rowZ (nthSh Ss k) r
/-- The first r rows of all sheets. -/
def allTo (Ss : List Sh) : Nat → List ((Int × List Int) × Value)
  | 0 => []
  | r + 1 => allTo Ss r ++ bandTo Ss r Ss.length
def wTo (Ss : List Sh) : Nat → Nat
  | 0 => 0
  | k + 1 => wTo Ss k + (nthSh Ss k).w
theorem wTo_mono (Ss : List Sh) : ∀ n k, k ≤ n → wTo Ss k ≤ wTo Ss n
  | 0, k, h => by
    have : k = 0 := by omega
    subst this
    exact Nat.le_refl _
  | n + 1, k, h => by
    by_cases e : k = n + 1
    · subst e
      exact Nat.le_refl _
    · have := wTo_mono Ss n k (by omega)
      rw [wTo]
      omega
theorem rowZ_len (S : Sh) (H r : Nat) (hl : S.Z.length = S.w * H) (hr : r < H) : (rowZ S r).length = S.w := by
  unfold rowZ
  have h1 : (r + 1) * S.w ≤ H * S.w := Nat.mul_le_mul_right _ hr
  rw [Nat.succ_mul, Nat.mul_comm H] at h1
  rw [List.length_take, List.length_drop, hl]
  omega
theorem bandTo_len (Ss : List Sh) (H r : Nat) (hl : ∀ i, i < Ss.length → (nthSh Ss i).Z.length = (nthSh Ss i).w * H) (hr : r < H) : ∀ k, k ≤ Ss.length → (bandTo Ss r k).length = wTo Ss k
  | 0, _ => rfl
  | k + 1, h => by rw [bandTo, List.length_append, bandTo_len Ss H r hl hr k (by omega), rowZ_len _ H r (hl k (by omega)) hr, wTo]
theorem allTo_len (Ss : List Sh) (H : Nat) (hl : ∀ i, i < Ss.length → (nthSh Ss i).Z.length = (nthSh Ss i).w * H) : ∀ r, r ≤ H → (allTo Ss r).length = r * wTo Ss Ss.length
  | 0, _ => by simp [allTo]
  | r + 1, h => by rw [allTo, List.length_append, allTo_len Ss H hl r (by omega), bandTo_len Ss H r hl (by omega) _ (Nat.le_refl _), Nat.succ_mul]
/-- The cells of a sheet's blocks. -/
def ShIn (q : World) (S : Sh) : Prop := ∀ j u, (flZ S.Z)[j]? = some u → q.cell? ⟨S.b, S.off + j, none⟩ = some u
/-- The sheets in a slice. -/
def PIn (q : World) (g o : Nat) (Ss : List Sh) (H : Nat) : Prop :=
  ∀ i, i < Ss.length → q.cell? ⟨g, o + i * 3, none⟩ = some (.int .i64 ((nthSh Ss i).w : Int)) ∧ q.cell? ⟨g, o + i * 3 + 1, none⟩ = some (.int .i64 (H : Int)) ∧ q.cell? ⟨g, o + i * 3 + 2, none⟩ = some (.slice (some ⟨(nthSh Ss i).b, (nthSh Ss i).off, none⟩) (nthSh Ss i).Z.length (nthSh Ss i).cap)
theorem ShIn.below {q q' : World} {S : Sh} (h : ShIn q S) (hb : Below q.heap.size q q') : ShIn q' S := fun j u hu => by
  have h1 := h j u hu
  exact (hb.cell (p := ⟨S.b, S.off + j, none⟩) (World.block_lt_of_cell? _ _ h1)).trans h1
theorem PIn.below {q q' : World} {g o H : Nat} {Ss : List Sh} (h : PIn q g o Ss H) (hb : Below q.heap.size q q') : PIn q' g o Ss H := fun i hi => by
  obtain ⟨h1, h2, h3⟩ := h i hi
  exact ⟨(hb.cell (World.block_lt_of_cell? _ _ h1)).trans h1, (hb.cell (World.block_lt_of_cell? _ _ h2)).trans h2, (hb.cell (World.block_lt_of_cell? _ _ h3)).trans h3⟩
theorem rowZ_cells {q : World} {S : Sh} (h : ShIn q S) (r : Nat) (j : Nat) (u : Value) (hu : (flZ (rowZ S r))[j]? = some u) : q.cell? ⟨S.b, S.off + r * S.w * 2 + j, none⟩ = some u := by
  unfold rowZ at hu
  rw [flZ_take, flZ_drop, List.getElem?_take] at hu
  split at hu
  · rw [List.getElem?_drop] at hu
    have := h _ _ hu
    rw [← Nat.add_assoc] at this
    exact this
  · cases hu
theorem flZ_flN (Z : List ((Int × List Int) × Value)) : ∀ n, n ≤ Z.length → flN (Z.map (·.1)) (Z.map (·.2)) n = (flZ Z).take (n * 2)
  | 0, _ => by simp [flN]
  | n + 1, hn => by
    rw [flN, flZ_flN Z n (by omega)]
    have e : (flZ Z).take ((n + 1) * 2) = (flZ Z).take (n * 2) ++ flZ ((Z.drop n).take 1) := by
      rw [← flZ_take, ← flZ_take, ← flZ_app, List.take_add]
    rw [e]
    have hz : (Z.drop n).take 1 = [Z[n]] := by
      rw [List.drop_eq_getElem_cons (by omega)]
      rfl
    rw [hz]
    simp [flZ, nth, List.getD, show n < Z.length by omega]
theorem OwnZ.empty (w : World) (base : Nat) (hb : base ≤ w.heap.size) : OwnZ (w.alloc (.cells #[] 65)) base (.slice (some ⟨w.heap.size, 0, none⟩) 0 0) [] :=
  ⟨Nat.le_trans hb (by simp), World.ownsRow_made w #[] 0 hb (by simp [maxLen]) rfl⟩
theorem wpList_pushZ {P : Program} {ops : Array Oper} {rest : List Oper} {o : Oper} {a : Act} {Q : Exit → Act → World → Prop} (w : World) (hgd : o.guard = none) (s x : Operand) (t : TypeId)
    (ho : o.op = .call { callee := .builtin .append, args := #[s, x], argTypes := #[t, t] })
    (base : Nat) (ht : P.underlying t = some (.slice 65)) (hinfo : (P.info? 65).map (fun i => (i.zero, i.size, i.bytes)) = some (some (.agg #[.int .i64 0, .slice none 0 0]), 2, 32))
    (v : Value) (Z Y : List ((Int × List Int) × Value)) (hs : a.eval s = v) (hown : OwnZ w base v Z) (ad : Addr) (m c : Nat) (hx : a.eval x = .slice (some ad) m c) (hm : Y.length = m)
    (hcell : ∀ j u, (flZ Y)[j]? = some u → w.cell? (ad.add j) = some u) (h1 : ∀ u ∈ flZ Y, u.oneCell' = true) (hlen : Z.length + m ≤ 2000000)
    (h : ∀ v' w', OwnZ w' base v' (Z ++ Y) → Below base w w' → wpList P ops Q rest (a.put o.dst v') w') : wpList P ops Q (o :: rest) a w := by
  obtain ⟨i, hi, hz0, hz1, hz2⟩ := info_parts hinfo
  refine wpList_append_own _ hgd s x t ho base 65 i (.agg #[.int .i64 0, .slice none 0 0]) 2 32 ht hi hz0 hz1 hz2 rfl (by decide) v Z.length _ hs hown.2 ad m c (flZ Y) hx (by rw [flZ_len, hm]) hcell h1 (by unfold maxLen; omega) (by omega) hown.1 ?_
  intro v' w' hown' hgrow _
  exact h v' w' ⟨Nat.le_trans hown.1 hgrow.size, by rw [List.length_append, flZ_app, hm]; exact hown'⟩ ((Below.refl _ w).grown hgrow hown.1 (fun g hg => (hown.2.lt g hg).1))
/-- Rows of blocks as they are read. -/
theorem OwnZ.blv {w : World} {base : Nat} {ao : Option Addr} {n cap : Nat} {Z : List ((Int × List Int) × Value)} (h : OwnZ w base (.slice ao n cap) Z) (hv : ∀ z ∈ Z, Vp w z.2 z.1.2) : n = Z.length ∧ BLv w (.slice ao Z.length cap) (Z.map (·.1)) (Z.map (·.2)) := by
  have hvp : ∀ j, j < (Z.map (·.1)).length → Vp w ((Z.map (·.2)).getD j (.bool false)) (nth (Z.map (·.1)) j).2 := fun j hj => by
    have hj' : j < Z.length := by simpa using hj
    have := hv Z[j] (List.getElem_mem hj')
    simpa [nth, List.getD, hj'] using this
  have hall := flZ_flN Z Z.length (Nat.le_refl _)
  rw [List.take_of_length_le (by rw [flZ_len]; exact Nat.le_refl _)] at hall
  rcases h.2.2 with ⟨e, h0⟩ | ⟨g, c, cur, e, hg, hh, hle, hmx, hsz, htk⟩
  · injection e with e1 e2 e3
    have : Z = [] := List.length_eq_zero_iff.1 h0
    subst this e1 e2 e3
    exact ⟨rfl, rfl, hvp, .inl ⟨rfl, rfl⟩⟩
  · injection e with e1 e2 e3
    subst e1 e2 e3
    refine ⟨rfl, by simp, hvp, .inr ⟨g, 0, cap, by simp, fun j u hu => ?_⟩⟩
    rw [List.length_map, hall] at hu
    rw [cell_of_row w g (0 + j) _ 65 (0, 0) hh]
    rw [← htk, List.getElem?_take] at hu
    split at hu
    · simpa using hu
    · cases hu
/-- The same rows, without the values. -/
def rowL (S : Nat × List (Int × List Int)) (r : Nat) : List (Int × List Int) := (S.2.drop (r * S.1)).take S.1
def bandL (Ls : List (Nat × List (Int × List Int))) (r : Nat) : List (Int × List Int) := Ls.flatMap fun S => rowL S r
def allL (Ls : List (Nat × List (Int × List Int))) : Nat → List (Int × List Int)
  | 0 => []
  | r + 1 => allL Ls r ++ bandL Ls r
def Sh.plain (S : Sh) : Nat × List (Int × List Int) := (S.w, S.Z.map (·.1))
theorem rowZ_plain (S : Sh) (r : Nat) : (rowZ S r).map (·.1) = rowL S.plain r := by simp [rowZ, rowL, Sh.plain]
theorem bandTo_take (Ss : List Sh) (r : Nat) : ∀ k, k ≤ Ss.length → (bandTo Ss r k).map (·.1) = bandL ((Ss.take k).map Sh.plain) r
  | 0, _ => by simp [bandTo, bandL]
  | k + 1, h => by
    have hk : k < Ss.length := h
    have e : Ss.take (k + 1) = Ss.take k ++ [nthSh Ss k] := by
      rw [List.take_add_one]
      simp [nthSh, List.getD, hk]
    rw [bandTo, List.map_append, bandTo_take Ss r k (by omega), rowZ_plain, e, List.map_append]
    simp [bandL]
theorem allTo_plain (Ss : List Sh) : ∀ r, (allTo Ss r).map (·.1) = allL (Ss.map Sh.plain) r
  | 0 => rfl
  | r + 1 => by rw [allTo, allL, List.map_append, allTo_plain Ss r, bandTo_take Ss r _ (Nat.le_refl _), List.take_length]
theorem bandTo_mem (Ss : List Sh) (r : Nat) : ∀ k, k ≤ Ss.length → ∀ z ∈ bandTo Ss r k, ∃ i, i < Ss.length ∧ z ∈ (nthSh Ss i).Z
  | 0, _, z, hz => by simp [bandTo] at hz
  | k + 1, h, z, hz => by
    rw [bandTo, List.mem_append] at hz
    rcases hz with hz | hz
    · exact bandTo_mem Ss r k (by omega) z hz
    · exact ⟨k, h, List.mem_of_mem_drop (List.mem_of_mem_take hz)⟩
theorem allTo_mem (Ss : List Sh) : ∀ r, ∀ z ∈ allTo Ss r, ∃ i, i < Ss.length ∧ z ∈ (nthSh Ss i).Z
  | 0, z, hz => by simp [allTo] at hz
  | r + 1, z, hz => by
    rw [allTo, List.mem_append] at hz
    rcases hz with hz | hz
    · exact allTo_mem Ss r z hz
    · exact bandTo_mem Ss r _ (Nat.le_refl _) z hz
/-- The blocks of a picture with the values of their rows. -/
def zipP (L : List (Int × List Int)) (vs : List Value) : List ((Int × List Int) × Value) := L.zip vs
theorem zipP_fst (L : List (Int × List Int)) (vs : List Value) (h : vs.length = L.length) : (zipP L vs).map (·.1) = L := by
  unfold zipP
  exact List.map_fst_zip (by omega)
theorem zipP_snd (L : List (Int × List Int)) (vs : List Value) (h : vs.length = L.length) : (zipP L vs).map (·.2) = vs := by
  unfold zipP
  exact List.map_snd_zip (by omega)
theorem zipP_len (L : List (Int × List Int)) (vs : List Value) (h : vs.length = L.length) : (zipP L vs).length = L.length := by
  unfold zipP
  rw [List.length_zip, h, Nat.min_self]
theorem zipP_fl (L : List (Int × List Int)) (vs : List Value) (h : vs.length = L.length) : flN L vs L.length = flZ (zipP L vs) := by
  have := flZ_flN (zipP L vs) L.length (by rw [zipP_len L vs h]; exact Nat.le_refl _)
  rw [zipP_fst L vs h, zipP_snd L vs h] at this
  rw [this, List.take_of_length_le (by rw [flZ_len, zipP_len L vs h]; exact Nat.le_refl _)]
theorem zipP_vp {w : World} {v : Value} {L : List (Int × List Int)} {vs : List Value} (h : BLv w v L vs) (z : (Int × List Int) × Value) (hz : z ∈ zipP L vs) : Vp w z.2 z.1.2 := by
  obtain ⟨j, hj, e⟩ := List.getElem_of_mem (show z ∈ L.zip vs from hz)
  have hj' : j < L.length := by
    have := hj
    rw [List.length_zip] at this
    omega
  have hv := h.2.1 j hj'
  have hjv : j < vs.length := by rw [h.1]; exact hj'
  rw [List.getElem_zip] at e
  subst e
  simpa [nth, List.getD, hj', hjv] using hv
theorem vp_one {w : World} {v : Value} {xs : List Int} (h : Vp w v xs) : v.oneCell' = true := by
  obtain ⟨a, c, rfl, _⟩ := h
  rfl
theorem zipP_in {w : World} {b off n cap : Nat} {L : List (Int × List Int)} {vs : List Value} (h : BLv w (.slice (some ⟨b, off, none⟩) n cap) L vs) (W : Nat) : ShIn w ⟨W, zipP L vs, b, off, cap⟩ := by
  intro j u hu
  rcases h.2.2 with ⟨e, _⟩ | ⟨b', off', c', e, hc⟩
  · cases e
  · injection e with e1 e2 e3
    cases e1
    exact hc j u (by rw [zipP_fl L vs h.1]; exact hu)
end Go.Proofs.YtnnakmgngkpghaaGreat
