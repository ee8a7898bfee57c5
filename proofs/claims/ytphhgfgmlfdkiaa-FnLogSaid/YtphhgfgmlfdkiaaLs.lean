/- Plain: what has come of the records when some places were looked at; the iterator as the law of a range over a function wants it. -/
import Derived.Test.YtphhgfgmlfdkiaaIt
import Derived.Test.YtphhgfgmlfdkiaaSlr
namespace Go.Proofs.Ytphhgfgmlfdkiaa
open Go.RowKit Go.Shelf
set_option linter.unusedVariables false
attribute [local go_sem] Oper.semAt_some

theorem grown_drewN (w : World) (n : Nat) (row : Option Nat) : w.grownBy (w.drewN n) row := ⟨rfl, rfl, rfl, Nat.le_refl _, fun _ _ _ => rfl⟩
def okAt (E : List ByteArray) (x : Pl E) : Bool := txB x.1.1 (standing E x.1.2 (cnt E x.1.2))
def txAt (E : List ByteArray) (x : Pl E) : ByteArray := txS x.1.1 (standing E x.1.2 (cnt E x.1.2))
def textsOf (E : List ByteArray) (pre : List (Pl E)) : List ByteArray := pre.map (txAt E)
def endOf (E : List ByteArray) (pre : List (Pl E)) : Nat := pre.foldl (fun _ x => x.1.2 + cnt E x.1.2) 0
theorem textsOf_snoc (E : List ByteArray) (pre : List (Pl E)) (x : Pl E) : textsOf E (pre ++ [x]) = textsOf E pre ++ [txAt E x] := by simp [textsOf]
theorem textsOf_len (E : List ByteArray) (pre : List (Pl E)) : (textsOf E pre).length = pre.length := by simp [textsOf]
theorem endOf_snoc (E : List ByteArray) (pre : List (Pl E)) (x : Pl E) : endOf E (pre ++ [x]) = x.1.2 + cnt E x.1.2 := by simp [endOf, List.foldl_append]

theorem placesTo_split {E : List ByteArray} {k : Nat} {ys : List (Pl E)} (h : placesTo E (k + 1) ys) : ∃ pre x, ys = pre ++ [x] ∧ placesTo E k pre ∧ x.1 = (k + 1, pos E k) := by
  unfold placesTo at h
  rw [List.range_succ, List.map_append] at h
  rcases List.eq_nil_or_concat ys with e | ⟨pre, x, e⟩
  · subst e
    simp at h
  · rw [List.concat_eq_append] at e
    subst e
    rw [List.map_append] at h
    have h2 := List.append_inj' h (by simp)
    exact ⟨pre, x, rfl, h2.1, by simpa using h2.2⟩
theorem placesTo_zero {E : List ByteArray} {ys : List (Pl E)} (h : placesTo E 0 ys) : ys = [] := by
  unfold placesTo at h
  simpa using h
theorem places_run (E : List ByteArray) : ∀ (k : Nat) (ys : List (Pl E)), placesTo E k ys → (∀ x ∈ ys, okAt E x = true) → Run E k (textsOf E ys) (pos E k) ∧ endOf E ys = pos E k
  | 0, ys, h, _ => by
    rw [placesTo_zero h]
    exact ⟨⟨rfl, rfl⟩, rfl⟩
  | k + 1, ys, h, ha => by
    obtain ⟨pre, x, rfl, hp, hx⟩ := placesTo_split h
    have ih := places_run E k pre hp (fun y hy => ha y (by simp [hy]))
    have hx2 := x.2
    have hok : txB x.1.1 (standing E x.1.2 (cnt E x.1.2)) = true := ha x (by simp)
    have h1 : x.1.1 = k + 1 := by rw [hx]
    have h2 : x.1.2 = pos E k := by rw [hx]
    have ht := tx_yes E x.1.2 x.1.1 (by omega) hx2.2.2 hok
    rw [textsOf_snoc, endOf_snoc]
    refine ⟨⟨textsOf E pre, pos E k, txAt E x, cnt E (pos E k), ih.1, ?_, rfl, rfl⟩, by rw [h2]; rfl⟩
    unfold txAt
    rw [h1, h2] at ht ⊢
    exact ht
theorem log_done {E : List ByteArray} {k : Nat} {ys : List (Pl E)} (h : placesTo E k ys) (ha : ∀ x ∈ ys, okAt E x = true) (he : E.length ≤ pos E k) : Log E (textsOf E ys) (endOf E ys) := by
  obtain ⟨h1, h2⟩ := places_run E k ys h ha
  have hl := h1.len
  rw [h2]
  refine ⟨by rw [hl]; exact h1, atR_no (fun hh => by omega)⟩
theorem log_stop {E : List ByteArray} {k : Nat} {ys : List (Pl E)} {x : Pl E} (h : placesTo E k (ys ++ [x])) (ha : ∀ x ∈ ys, okAt E x = true) (hx : okAt E x = false) : Log E (textsOf E ys) (endOf E ys) := by
  cases k with
  | zero => have := placesTo_zero h; simp at this
  | succ k =>
    obtain ⟨pre, y, e, hp, hy⟩ := placesTo_split h
    have e2 := List.append_inj' e (by simp)
    obtain ⟨e3, e4⟩ := e2
    simp only [List.cons.injEq, and_true] at e4
    subst e3
    subst e4
    obtain ⟨h1, h2⟩ := places_run E k ys hp ha
    have hl := h1.len
    have hx2 := x.2
    have g1 : x.1.1 = k + 1 := by rw [hy]
    have g2 : x.1.2 = pos E k := by rw [hy]
    have ht := tx_no E x.1.2 x.1.1 (by omega) hx2.2.2 hx
    rw [g1, g2] at ht
    rw [h2]
    exact ⟨by rw [hl]; exact h1, by rw [hl]; exact ht⟩

set_option maxRecDepth 100000 in
set_option maxHeartbeats 3200000 in
theorem places_nil (n l Bs cap : Nat) (ea : Option Addr) (W : World) (hBs : W.cell? ⟨Bs, 0, none⟩ = some (.slice ea 0 cap)) :
    CallsIn Fence.wide n Try.prog 78 #[.func (.yield l) #[] #[], .pointer (some ⟨Bs, 0, none⟩)] W fun e W' => (∃ v, e = .returned v) ∧ ∃ k, W' = W.drewN k := by
  refine callsIn_of_wp Try.func78 rfl trivial ?_ rfl
  simp only [Try.ntmps78, List.size_toArray, List.length_cons, List.length_nil, Nat.reduceAdd, Nat.reduceSub, Array.replicate_succ, Array.replicate_zero, List.push_toArray, List.append_toArray, List.nil_append, List.cons_append]
  gi_wp2
  gi_loopw [3, 4] (fun p qv wr => p = .int .i64 0 ∧ wr = W) (fun p _ _ => 0)
  case atStart => exact ⟨rfl, rfl⟩
  case round =>
    obtain ⟨rfl, rfl⟩ := hrel
    gi_wp2
    go_end0
    exact ⟨⟨_, rfl⟩, 0, rfl⟩

theorem places_stops (n : Nat) (hn : 1 ≤ n) (Bs ec base : Nat) (ea : Option Addr) (E : List ByteArray) (w : World) (hE : E.length ≤ 1500) (hs : ∀ j, j < E.length → (sAt E j).size ≤ 128) (hcap : E.length ≤ ec) (hB : Blk w Bs [.slice ea E.length ec] 24) (hbB : base ≤ Bs) (ho : OwG w base 9 1 (.slice ea E.length ec) E.length (encS E)) :
    ∃ b, base ≤ b ∧ b < w.heap.size ∧ (∀ j, j < E.length → w.cell? ⟨b, 0 + j, none⟩ = some (.string (sAt E j))) ∧
      SeqStopsK Fence.wide n Try.prog 78 #[.pointer (some ⟨Bs, 0, none⟩)] (encP E b 0 ec) (Kbb b Bs) (fun ys => ∃ k, placesTo E k ys ∧ E.length ≤ pos E k) (fun pre => ∃ k, placesTo E k pre) E.length w := by
  by_cases h0 : E.length = 0
  · refine ⟨Bs, hbB, hB.lt, fun j hj => by omega, ?_⟩
    intro l J Jx W hbw hJ hJx hY hj
    have hc : W.cell? ⟨Bs, 0, none⟩ = some (.slice ea 0 ec) := by
      have := (hB.below hbw hB.lt).cell (i := 0) rfl
      rw [h0] at this
      exact this
    refine (places_nil n l Bs ec ea W hc).mono ?_
    rintro e W' ⟨hv, k, rfl⟩
    refine ⟨hv, .inl ⟨[], ⟨0, rfl, by rw [h0]; exact Nat.zero_le _⟩, hJ [] W _ none hj (grown_drewN W k none) (fun r e => by cases e)⟩⟩
  · obtain ⟨g, rfl⟩ := ho.addr (by omega)
    have hge := ho.ge
    have hcell : ∀ j, j < E.length → w.cell? ⟨g, 0 + j, none⟩ = some (.string (sAt E j)) := fun j hj => by
      obtain ⟨b', off', e', hc⟩ := ho.rw.atS j hj
      cases e'
      exact hc
    refine ⟨g, hge.1, hge.2, hcell, ?_⟩
    intro l J Jx W hbw hJ hJx hY hj
    refine (places_in n hn l Bs g 0 ec E hE hs hcap J Jx hY W ((hB.below hbw hB.lt).cell (i := 0) rfl) (fun j hj => (hbw.cell (p := ⟨g, 0 + j, none⟩) hge.2).trans (hcell j hj)) hj (fun pre W k h => hJ pre W _ none h (grown_drewN W k none) (fun r e => by cases e))).mono ?_
    rintro e W' ⟨hv, ⟨ys, h1, h2⟩ | ⟨pre, ⟨k, h1, _⟩, h2⟩⟩
    · exact ⟨hv, .inl ⟨ys, h1, h2⟩⟩
    · exact ⟨hv, .inr ⟨pre, ⟨k, h1⟩, h2⟩⟩
end Go.Proofs.Ytphhgfgmlfdkiaa
