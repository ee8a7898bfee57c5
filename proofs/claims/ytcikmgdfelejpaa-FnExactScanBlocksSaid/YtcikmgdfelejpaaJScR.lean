/- Plain facts: the bits of parts with no bound, and what the specification's ScanBits makes of them; appends to a slice that say where it lies. -/
import Derived.Test.YtcikmgdfelejpaaJGg
namespace Go.Proofs.Ytcikmgdfelejpaa
open Go.RowKit Go.Maps
set_option linter.unusedVariables false

/-- The bits of parts. -/
def raw (T : Tb) : List Pt → Option (List Int)
  | [] => some []
  | p :: ps => (bitsPt T p).bind fun y => (raw T ps).bind fun r => some (y ++ r)
theorem raw_append (T : Tb) : ∀ P Q : List Pt, raw T (P ++ Q) = (raw T P).bind fun a => (raw T Q).bind fun b => some (a ++ b)
  | [], Q => by
    show raw T Q = (raw T Q).bind fun b => some ([] ++ b)
    cases raw T Q <;> rfl
  | p :: ps, Q => by
    show (bitsPt T p).bind (fun y => (raw T (ps ++ Q)).bind fun r => some (y ++ r)) = _
    rw [raw_append T ps Q]
    show _ = ((bitsPt T p).bind fun y => (raw T ps).bind fun r => some (y ++ r)).bind _
    cases bitsPt T p with
    | none => rfl
    | some y =>
      cases raw T ps with
      | none => rfl
      | some a =>
        cases raw T Q with
        | none => rfl
        | some b => show some (y ++ (a ++ b)) = some (y ++ a ++ b); rw [List.append_assoc]
theorem raw_one (T : Tb) (p : Pt) : raw T [p] = bitsPt T p := by
  show (bitsPt T p).bind (fun y => some (y ++ [])) = _
  cases bitsPt T p with
  | none => rfl
  | some y => show some (y ++ []) = some y; rw [List.append_nil]
theorem raw_snoc {T : Tb} {P : List Pt} {r y : List Int} {p : Pt} (h : raw T P = some r) (hp : bitsPt T p = some y) : raw T (P ++ [p]) = some (r ++ y) := by
  rw [raw_append, h, raw_one, hp]; rfl
theorem raw_none {T : Tb} {P : List Pt} (Q : List Pt) (h : raw T P = none) : raw T (P ++ Q) = none := by rw [raw_append, h]; rfl
theorem raw_snoc_none {T : Tb} {P : List Pt} {r : List Int} {p : Pt} (h : raw T P = some r) (hp : bitsPt T p = none) : raw T (P ++ [p]) = none := by
  rw [raw_append, h, raw_one, hp]; rfl
/-- Bits that are not too many. -/
def lim (r : List Int) : Option (List Int) := if 480000 < r.length then none else some r
theorem raw_big {T : Tb} {P : List Pt} {r : List Int} (Q : List Pt) (h : raw T P = some r) (hb : 480000 < r.length) : (raw T (P ++ Q)).bind lim = none := by
  rw [raw_append, h]
  cases raw T Q with
  | none => rfl
  | some b =>
    show lim (r ++ b) = none
    unfold lim
    rw [if_pos (by rw [List.length_append]; omega)]
theorem take_succP (P : List Pt) (k : Nat) (h : k < P.length) : P.take (k + 1) = P.take k ++ [nthP P k] := by
  rw [List.take_add_one]
  simp [nthP, List.getD, h]
theorem foldTo_raw (T : Tb) (P : List Pt) : ∀ k, k ≤ P.length → foldTo T P k = (raw T (P.take k)).bind lim
  | 0, _ => by simp [foldTo, raw, lim]
  | k + 1, hk => by
    rw [foldTo, foldTo_raw T P k (by omega), take_succP P k (by omega), raw_append, raw_one]
    cases raw T (P.take k) with
    | none => rfl
    | some r =>
      show (lim r).bind (fun acc => more T acc (nthP P k)) = ((bitsPt T (nthP P k)).bind fun b => some (r ++ b)).bind lim
      unfold lim more
      by_cases hr : 480000 < r.length
      · rw [if_pos hr]
        cases bitsPt T (nthP P k) with
        | none => rfl
        | some y =>
          show none = if _ then _ else _
          rw [if_pos (by rw [List.length_append]; omega)]
      · rw [if_neg hr]
        cases bitsPt T (nthP P k) with
        | none => rfl
        | some y =>
          show (if 480000 < r.length + y.length then none else some (r ++ y)) = if 480000 < (r ++ y).length then none else some (r ++ y)
          rw [List.length_append]
theorem scanR_raw {T : Tb} {L : List (Int × List Int)} (h : T.right) (h2 : scanOk L) : scanR T L = (raw T (ptsTo L L.length)).bind lim := by
  rw [scanR_yes h h2, foldTo_raw T _ _ (Nat.le_refl _), List.take_length]
theorem ptsTo_pre (L : List (Int × List Int)) (k : Nat) : ∀ n, k ≤ n → ∃ Q, ptsTo L n = ptsTo L k ++ Q
  | 0, hn => ⟨[], by have : k = 0 := by omega
                     subst this; simp⟩
  | n + 1, hn => by
    by_cases e : k = n + 1
    · subst e; exact ⟨[], by simp⟩
    · obtain ⟨Q, hQ⟩ := ptsTo_pre L k n (by omega)
      exact ⟨_, by rw [ptsTo, hQ, List.append_assoc, List.append_assoc]⟩
theorem ptsS_pre (S : List (Int × Int × List Int)) (k : Nat) : ∀ n, k ≤ n → ∃ Q, ptsS S n = ptsS S k ++ Q
  | 0, hn => ⟨[], by have : k = 0 := by omega
                     subst this; simp⟩
  | n + 1, hn => by
    by_cases e : k = n + 1
    · subst e; exact ⟨[], by simp⟩
    · obtain ⟨Q, hQ⟩ := ptsS_pre S k n (by omega)
      exact ⟨_, by rw [ptsS, hQ, List.append_assoc]⟩
/-- The parts of block k up to its m-th step. -/
def ptsAt (L : List (Int × List Int)) (k m : Nat) : List Pt := ptsTo L k ++ [.inl (0, (sz (df L k))), .inr (restL (df L k))] ++ ptsS (stepsR (nth L k).1 (nth L k).2) m
theorem ptsAt_pre (L : List (Int × List Int)) (k m : Nat) (hk : k < L.length) (hm : m ≤ (stepsR (nth L k).1 (nth L k).2).length) : ∃ Q, ptsTo L L.length = ptsAt L k m ++ Q := by
  obtain ⟨Q, hQ⟩ := ptsTo_pre L (k + 1) L.length (by omega)
  obtain ⟨Q', hQ'⟩ := ptsS_pre (stepsR (nth L k).1 (nth L k).2) m _ hm
  refine ⟨Q' ++ Q, ?_⟩
  rw [hQ, ptsTo, hQ', ptsAt]
  simp only [List.append_assoc]
theorem ptsAt_end (L : List (Int × List Int)) (k : Nat) : ptsAt L k (stepsR (nth L k).1 (nth L k).2).length = ptsTo L (k + 1) := rfl

/-- A slice's own block lies outside a stretch of blocks. -/
def Far (v : Value) (B M : Nat) : Prop := ∀ g, v.ownBlock = some g → g < B ∨ M ≤ g
def Mid (B M : Nat) (w w' : World) : Prop := ∀ g, B ≤ g → g < M → w'.heap[g]? = w.heap[g]?
theorem Mid.refl (B M : Nat) (w : World) : Mid B M w w := fun _ _ _ => rfl
theorem Mid.trans {B M : Nat} {a b c : World} (h : Mid B M a b) (k : Mid B M b c) : Mid B M a c := fun g h0 h1 => (k g h0 h1).trans (h g h0 h1)
theorem Mid.ofBelow {B M : Nat} {w w' : World} (h : Below w.heap.size w w') (hM : M ≤ w.heap.size) : Mid B M w w' := fun g _ h1 => h.block g (by omega)
/-- What an append leaves. -/
def AppP (w : World) (base : Nat) (v : Value) (zs : List Int) (v' : Value) (w' : World) : Prop :=
  Own w' base 3 .i64 v' zs ∧ w.grownBy w' v.ownBlock ∧ (v'.ownBlock = v.ownBlock ∨ v'.ownBlock = some w.heap.size)
theorem AppP.far {w w' : World} {base B M : Nat} {v v' : Value} {zs : List Int} (h : AppP w base v zs v' w') (hf : Far v B M) (hM : M ≤ w.heap.size) : Far v' B M ∧ Mid B M w w' := by
  obtain ⟨_, h2, h3⟩ := h
  refine ⟨fun g hg => ?_, fun g h0 h1 => h2.block g (by omega) (fun e => ?_)⟩
  · rcases h3 with h3 | h3
    · exact hf g (by rw [← h3]; exact hg)
    · rw [h3] at hg
      cases hg
      exact .inr hM
  · rcases hf g e.symm with h | h <;> omega
theorem AppP.below {w w' : World} {base : Nat} {v v' : Value} {zs xs : List Int} (h : AppP w base v zs v' w') (ho : Own w base 3 .i64 v xs) : Below base w w' :=
  (Below.refl base w).grown h.2.1 ho.1 (fun g hg => (ho.2.lt g hg).1)
theorem AppP.trans {w w1 w2 : World} {base : Nat} {v v1 v2 : Value} {xs zs : List Int} (h : AppP w base v xs v1 w1) (k : AppP w1 base v1 zs v2 w2) : Own w2 base 3 .i64 v2 zs := k.1

theorem run_app (P : Program) (w : World) (base : Nat) (t ty : TypeId) (i : TypeInfo) (ht : P.underlying t = some (.slice 3)) (hi : P.info? 3 = some i) (hz : i.zero = some (.int .i64 0)) (hsize : i.size = 1) (hby : i.bytes = 8)
    (g n cap : Nat) (xs : List Int) (hn : n = xs.length) (hown : Own w base 3 .i64 (.slice (some ⟨g, 0, none⟩) n cap) xs) (yb : Nat) (y : Value) (ys : List Int) (hy : Own w yb 3 .i64 y ys) (hlen : xs.length + ys.length < 1000000000000) :
    ∃ v' w', (Builtin.append_ #[t, t] ty #[.slice (some ⟨g, 0, none⟩) n cap, y]).run P w = .ok v' w' ∧ AppP w base (.slice (some ⟨g, 0, none⟩) n cap) (xs ++ ys) v' w' := by
  subst hn
  rcases hy.2.2 with ⟨rfl, h0⟩ | ⟨gy, cy, cury, rfl, _⟩
  · have : ys = [] := List.length_eq_zero_iff.1 h0
    subst this
    refine ⟨_, w, run_append_owned_none (P := P) (w := w) base t ty 3 i 1 ht hi _ xs.length _ hown.2, by simpa using hown, World.grownBy.refl w _, .inl rfl⟩
  · have hcell : ∀ j u, (ys.map (Value.int .i64))[j]? = some u → w.cell? ((⟨gy, 0, none⟩ : Addr).add j) = some u := by
      intro j u hj
      have hjl : j < ys.length := by have := (List.getElem?_eq_some_iff.1 hj).1; simpa using this
      rw [hy.cell rfl j hjl]
      simp [hjl] at hj
      rw [← hj]
      simp [List.getD, hjl]
    have hone : ∀ u ∈ ys.map (Value.int .i64), u.oneCell' = true := by
      intro u hu
      simp at hu
      obtain ⟨q, _, rfl⟩ := hu
      rfl
    have h63 : xs.length + ys.length ≤ maxLen := by unfold maxLen; omega
    have hbytes : (xs.length + ys.length) * 8 ≤ 140737488355328 := by omega
    obtain ⟨v', w', hr, h2, h3, _⟩ := run_append_own (P := P) w base t ty 3 i (.int .i64 0) 1 8 ht hi hz hsize hby rfl (by decide) _ xs.length _ hown.2 ⟨gy, 0, none⟩ ys.length cy (ys.map (Value.int .i64)) (by simp) hcell hone h63 hbytes hown.1
    refine ⟨v', w', hr, ⟨Nat.le_trans hown.1 h3.size, by simpa using h2⟩, h3, ?_⟩
    rcases hown.2.2 with ⟨h', _⟩ | ⟨g', cap', cur, h', hbg, hg, hnc, hcm, hcs, htake⟩
    · simp at h'
    · simp only [Value.slice.injEq, Option.some.injEq, Addr.mk.injEq, and_true, true_and] at h'
      obtain ⟨rfl, rfl⟩ := h'
      by_cases hroom : xs.length + ys.length ≤ cap
      · have hr2 := run_append_room (P := P) w t ty 3 i ht hi g xs.length cap cur hg ⟨gy, 0, none⟩ ys.length cy (ys.map (Value.int .i64)) (by simp [hsize]) hcell hone hroom (by rw [hsize, List.length_map]; omega)
        rw [hr2] at hr
        cases hr
        exact .inl rfl
      · have holds := hown.2.cells (g := g) rfl
        have hr2 := run_append_grow (P := P) w t ty 3 i (.int .i64 0) ht hi hz ⟨g, 0, none⟩ xs.length cap (xs.map (Value.int .i64)) (by simp [hsize]) holds ⟨gy, 0, none⟩ ys.length cy (ys.map (Value.int .i64)) (by simp [hsize]) hcell (by omega) (by unfold maxLen at h63; omega) (growslice_fits (by unfold maxLen at h63; omega) (by rw [hby]; exact hbytes))
        rw [hr2] at hr
        cases hr
        exact .inr rfl
/-- 'append(out, ys...)' as one step of a statement that leaves its order open. -/
theorem step_appX {P : Program} {ops : Array Oper} {o : Oper} {a : Act} {K : Act → World → Prop} {Q : Exit → Act → World → Prop} {E : Prop} (w : World) (hgd : o.guard = none) (s x : Operand) (t : TypeId)
    (ho : o.op = .call { callee := .builtin .append, args := #[s, x], argTypes := #[t, t] })
    (base : Nat) (ht : P.underlying t = some (.slice 3)) (hinfo : (P.info? 3).map (fun i => (i.zero, i.size, i.bytes)) = some (some (.int .i64 0), 1, 8))
    (v : Value) (xs : List Int) (hs : a.eval s = v) (hown : Own w base 3 .i64 v xs) (hne : ∃ g n c, v = .slice (some ⟨g, 0, none⟩) n c) (yb : Nat) (y : Value) (ys : List Int) (hx : a.eval x = y) (hy : Own w yb 3 .i64 y ys)
    (hlen : xs.length + ys.length < 1000000000000) (h : ∀ v' w', AppP w base v (xs ++ ys) v' w' → K (a.put o.dst v') w') :
    if Region.wanted o (yielded ops a.tmps) = true then Oper.wp P o a w K Q else E := by
  have hw : Region.wanted o (yielded ops a.tmps) = true := by simp [Region.wanted, hgd]
  rw [if_pos hw]
  obtain ⟨i, hi, hz0, hz1, hz2⟩ := info_parts hinfo
  obtain ⟨g, n, c, rfl⟩ := hne
  have hn : n = xs.length := by
    obtain ⟨_, _, e⟩ := hown.shape
    cases e
    rfl
  obtain ⟨v', w', hr, hp⟩ := run_app P w base t o.type i ht hi hz0 hz1 hz2 g n c xs hn hown yb y ys hy hlen
  unfold Oper.wp execOp
  simp only [ho, resolve, invoke, builtin, Sem.run_bind, Sem.run_pure, Result.andThen_ok, List.map_toArray, List.map_cons, List.map_nil, hs, hx, hr]
  exact h v' w' hp
theorem AppP.some {w w' : World} {base g n c : Nat} {v' : Value} {zs : List Int} (h : AppP w base (.slice (some ⟨g, 0, none⟩) n c) zs v' w') : ∃ g' c', v' = .slice (some ⟨g', 0, none⟩) zs.length c' := by
  rcases h.1.2.2 with ⟨rfl, _⟩ | ⟨g', c', cur, rfl, _⟩
  · rcases h.2.2 with h | h <;> simp [Value.ownBlock] at h
  · exact ⟨g', c', rfl⟩
end Go.Proofs.Ytcikmgdfelejpaa
