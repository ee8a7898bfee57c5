/- The code of a symbol by the specification, and plain facts for its ScanBits. -/
import Derived.Test.YtcikmgdfelejpaaJScR
import Derived.Test.YtcikmgdfelejpaaJSymSpec
import Derived.Test.YtcikmgdfelejpaaJGf
namespace Go.Proofs.Ytcikmgdfelejpaa
open Go.RowKit Go.Maps
set_option linter.unusedVariables false

theorem Own.keepM {w w' : World} {base : Nat} {e : TypeId} {k : IntKind} {v : Value} {xs : List Int} (ho : Own w base e k v xs) (hs : w.heap.size ≤ w'.heap.size) (hk : ∀ g, base ≤ g → g < w.heap.size → w'.heap[g]? = w.heap[g]?) : Own w' base e k v xs := by
  refine ⟨Nat.le_trans ho.1 hs, ho.2.1, ?_⟩
  rcases ho.2.2 with h0 | ⟨g, cap, cur, hv, hg, hh, r⟩
  · exact .inl h0
  · exact .inr ⟨g, cap, cur, hv, hg, (hk g hg (Array.getElem?_eq_some_iff.1 hh).1).trans hh, r⟩
theorem AllAt.keepM {w w' : World} {base : Nat} {v : Value} {K : List (Nat × Int)} (h : AllAt w base v K) (hs : w.heap.size ≤ w'.heap.size) (hk : ∀ g, base ≤ g → g < w.heap.size → w'.heap[g]? = w.heap[g]?) : AllAt w' base v K := by
  obtain ⟨vs, h1, h2, h3⟩ := h
  refine ⟨vs, h1, ⟨Nat.le_trans h2.1 hs, h2.2.1, ?_⟩, fun p x hx => ?_⟩
  · rcases h2.2.2 with h0 | ⟨g, cap, cur, hv, hg, hh, r⟩
    · exact .inl h0
    · exact .inr ⟨g, cap, cur, hv, hg, (hk g hg (Array.getElem?_eq_some_iff.1 hh).1).trans hh, r⟩
  · obtain ⟨y, h4, h5⟩ := h3 p x hx
    exact ⟨y, h4, h5.keepM hs hk⟩
theorem OwnT.keepM {w w' : World} {base : Nat} {v : Value} {S : List (Int × Int × List Int)} {vs : List Value} (h : OwnT w base v S vs) (hs : w.heap.size ≤ w'.heap.size) (hk : ∀ g, base ≤ g → g < w.heap.size → w'.heap[g]? = w.heap[g]?) : OwnT w' base v S vs := by
  obtain ⟨h1, h2, h3, h4, h5⟩ := h
  refine ⟨Nat.le_trans h1 hs, h2, ⟨h3.1, ?_⟩, fun j hj => (h4 j hj).keepM hs hk, h5⟩
  rcases h3.2 with h0 | ⟨g, cap, cur, hv, hg, hh, r⟩
  · exact .inl h0
  · exact .inr ⟨g, cap, cur, hv, hg, (hk g hg (Array.getElem?_eq_some_iff.1 hh).1).trans hh, r⟩
theorem AllAt.lt {w : World} {base : Nat} {v : Value} {K : List (Nat × Int)} (h : AllAt w base v K) : base ≤ w.heap.size := by
  obtain ⟨vs, h1, h2, h3⟩ := h
  exact h2.1

set_option maxRecDepth 100000 in
set_option maxHeartbeats 800000 in
theorem l04_code (v va : Value) (cs ss : List Int) (sym : Int) (base : Nat) (w : World) (hr : rightC cs ss = true) (hsl : ss.length ≤ 1048576) (hv : CV w v cs ss) (hall : AllAt w base va (keysTo cs 16)) :
    Calls Try.prog 39 #[v, va, .int .i64 sym] w fun e w' => ∃ v', e = .returned v' ∧ Own w' base 3 .i64 v' (codeL cs ss sym) ∧ Below w.heap.size w w' := by
  obtain ⟨a0, c0, a1, c1, rfl, u0, u1⟩ := hv
  have HB := hid ((Below.refl w.heap.size w).alloc (Nat.le_refl _) (.cells #[.slice a0 cs.length c0, .slice a1 ss.length c1] 32))
  have HT := hid (Two.new w (.slice a0 cs.length c0) (.slice a1 ss.length c1) 32)
  have HA := hid (hall.below HB.out)
  have hbase := hall.lt
  have HKL := hid (keys_len cs ss hr)
  have HHIT := hid (codeL_hit cs ss hr)
  have HMISS := hid (codeL_miss cs ss hr sym)
  have HU1 := hid (u1.below (Nat.le_refl _) HB.out)
  clear u0 u1 hall hr
  generalize keysTo cs 16 = K at *
  obtain ⟨vs, hvl, hos, hel⟩ := HA.out
  obtain ⟨vo, vc, rfl⟩ := hos.shape
  have HOS := hid hos
  have HEL := hid hel
  have HVL := hid (hvl.trans HKL.out)
  clear hos hel hvl
  simp only [HVL.out]
  go_enter Try.func39, Try.ntmps39
  go_wp2_with fail
  generalize w.alloc (.cells #[.slice a0 cs.length c0, .slice a1 ss.length c1] 32) = wa at *
  obtain ⟨q1, q2, q3, q4⟩ := HT.out.cells
  go_loop [7] (fun i => ∃ k : Nat, k ≤ ss.length ∧ i = .int .i64 k ∧ Hid (∀ p, p < k → ss.getD p 0 ≠ sym)) (fun i => ss.length - (intOf i).toNat)
  case atStart => exact ⟨0, by omega, rfl, fun p hp => by omega⟩
  case round =>
    obtain ⟨k, hk, rfl, hno⟩ := hrel
    by_cases hlt : k < ss.length
    · have hlt' : (k : Int) < (ss.length : Int) := by omega
      obtain ⟨b, off, rfl, hc⟩ := HU1.out.2 k hlt
      have hkK : k < K.length := by rw [HKL.out]; exact hlt
      have hget : K[k]? = some (K.getD k (0, 0)) := by simp [List.getD, hkK]
      obtain ⟨y, hy1, hy2⟩ := HEL.out k _ hget
      obtain ⟨g, rfl, hcy⟩ := HOS.out.cell k y hy1
      obtain ⟨yo, yc, rfl⟩ := hy2.shape
      by_cases he : ss.getD k 0 = sym
      · have HC := hid (HHIT.out k hlt _ hget)
        have hd : (ss.getD k 0 == sym) = true := by simpa using he
        rw [he] at HC
        have HY := hid hy2
        clear he hy2 hget hkK
        generalize ss.getD k 0 = X at *
        go_wp2_with fail
        go_ret
        rw [HC.out]
        exact ⟨_, rfl, HY.out, HB.out⟩
      · have hd : (ss.getD k 0 == sym) = false := by simpa using he
        have HNE := hid he
        clear he hy2 hget hkK
        generalize hX : ss.getD k 0 = X at *
        have HX := hid hX
        clear hX
        go_wp2_with fail
        go_round
        case rel => exact ⟨k + 1, by omega, by go_num, fun p hp => by
            by_cases e : p < k
            · exact hno.out p e
            · have : p = k := by omega
              subst this
              rw [HX.out]
              exact HNE.out⟩
        case measure => simp [intOf]; omega
    · obtain rfl : k = ss.length := by omega
      have HM := hid (HMISS.out (fun p hp => hno.out p hp))
      have hbw : base ≤ wa.heap.size := Nat.le_trans hbase HB.out.size
      go_wp2_with fail
      go_ret
      rw [HM.out]
      exact ⟨_, rfl, (Own.empty _ _ _ _ (Nat.le_refl _)).mono hbw, HB.out.alloc HB.out.size _⟩

theorem at_zero {T : Tb} {L : List (Int × List Int)} {k : Nat} {r : List Int} (h : raw T (ptsTo L k) = some r) (hc : 0 < (T.code 0 (sz (df L k))).length) : raw T (ptsAt L k 0) = some (r ++ T.code 0 (sz (df L k)) ++ restL (df L k)) := by
  have h1 : raw T (ptsTo L k ++ [.inl (0, (sz (df L k)))]) = some (r ++ T.code 0 (sz (df L k))) := raw_snoc h (by show (if _ then _ else _) = _; rw [if_neg (by omega)])
  have h2 := raw_snoc (p := .inr (restL (df L k))) h1 rfl
  have e : ptsAt L k 0 = ptsTo L k ++ [.inl (0, (sz (df L k)))] ++ [.inr (restL (df L k))] := by simp [ptsAt, ptsS]
  rw [e]; exact h2
theorem at_zero_no {T : Tb} {L : List (Int × List Int)} {k : Nat} {r : List Int} (hk : k < L.length) (h : raw T (ptsTo L k) = some r) (hc : (T.code 0 (sz (df L k))).length = 0) : raw T (ptsTo L L.length) = none := by
  have h1 : raw T (ptsTo L k ++ [.inl (0, (sz (df L k)))]) = none := raw_snoc_none h (by show (if _ then _ else _) = _; rw [if_pos hc])
  obtain ⟨Q, hQ⟩ := ptsAt_pre L k 0 hk (Nat.zero_le _)
  have e : ptsTo L L.length = (ptsTo L k ++ [.inl (0, (sz (df L k)))]) ++ ([.inr (restL (df L k))] ++ Q) := by rw [hQ]; simp [ptsAt, ptsS]
  rw [e]; exact raw_none _ h1
theorem at_step {T : Tb} {L : List (Int × List Int)} {k m : Nat} {r : List Int} {s : Int × Int × List Int} (hs : nthS (stepsR (nth L k).1 (nth L k).2) m = s) (h : raw T (ptsAt L k m) = some r) (hc : 0 < (T.code 1 (16 * s.1 + s.2.1)).length) : raw T (ptsAt L k (m + 1)) = some (r ++ T.code 1 (16 * s.1 + s.2.1) ++ s.2.2) := by
  have h1 : raw T (ptsAt L k m ++ [.inl (1, (16 * s.1 + s.2.1))]) = some (r ++ T.code 1 (16 * s.1 + s.2.1)) := raw_snoc h (by show (if _ then _ else _) = _; rw [if_neg (by omega)])
  have h2 := raw_snoc (p := .inr s.2.2) h1 rfl
  have e : ptsAt L k (m + 1) = ptsAt L k m ++ [.inl (1, (16 * s.1 + s.2.1))] ++ [.inr s.2.2] := by simp [ptsAt, ptsS, hs]
  rw [e]; exact h2
theorem at_step_no {T : Tb} {L : List (Int × List Int)} {k m : Nat} {r : List Int} {s : Int × Int × List Int} (hk : k < L.length) (hm : m < (stepsR (nth L k).1 (nth L k).2).length) (hs : nthS (stepsR (nth L k).1 (nth L k).2) m = s) (h : raw T (ptsAt L k m) = some r) (hc : (T.code 1 (16 * s.1 + s.2.1)).length = 0) : raw T (ptsTo L L.length) = none := by
  have h1 : raw T (ptsAt L k m ++ [.inl (1, (16 * s.1 + s.2.1))]) = none := raw_snoc_none h (by show (if _ then _ else _) = _; rw [if_pos hc])
  obtain ⟨Q, hQ⟩ := ptsAt_pre L k (m + 1) hk hm
  have e : ptsTo L L.length = (ptsAt L k m ++ [.inl (1, (16 * s.1 + s.2.1))]) ++ ([.inr s.2.2] ++ Q) := by rw [hQ]; simp [ptsAt, ptsS, hs]
  rw [e]; exact raw_none _ h1
theorem at_big {T : Tb} {L : List (Int × List Int)} {k : Nat} {r : List Int} (hk : k < L.length) (h : raw T (ptsTo L (k + 1)) = some r) (hb : 480000 < r.length) : (raw T (ptsTo L L.length)).bind lim = none := by
  obtain ⟨Q, hQ⟩ := ptsTo_pre L (k + 1) L.length (by omega)
  rw [hQ]
  exact raw_big Q h hb
theorem at_all {T : Tb} {L : List (Int × List Int)} {r : List Int} (h : raw T (ptsTo L L.length) = some r) (hb : r.length ≤ 480000) : (raw T (ptsTo L L.length)).bind lim = some r := by
  rw [h]
  show lim r = some r
  unfold lim
  rw [if_neg (by omega)]
end Go.Proofs.Ytcikmgdfelejpaa
