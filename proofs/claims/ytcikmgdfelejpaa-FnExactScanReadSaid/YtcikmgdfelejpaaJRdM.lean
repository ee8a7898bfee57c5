/- Marks of a slice of blocks that is the call's own. -/
import Derived.Test.YtcikmgdfelejpaaJRdO
import Derived.Test.YtcikmgdfelejpaaJFqL
namespace Go.Proofs.Ytcikmgdfelejpaa
open Go.RowKit
set_option linter.unusedVariables false

theorem nth_setK (S : List (Int × List Int)) (k : Nat) (x : Int × List Int) (h : k < S.length) : nth (S.set k x) k = x := by simp [nth, List.getD, h]
theorem nth_setN (S : List (Int × List Int)) (k j : Nat) (x : Int × List Int) (h : j ≠ k) : nth (S.set k x) j = nth S j := by simp [nth, List.getD, List.getElem?_set_ne (show k ≠ j from fun e => h e.symm)]
theorem nth_inK (S : List (Int × List Int)) (j : Nat) (h : j < S.length) : nth S j ∈ S := by simp [nth, List.getD, h]
theorem flN_set (S : List (Int × List Int)) (vs : List Value) (k : Nat) (x : Int × List Int) (hk : k < S.length) : ∀ n, flN (S.set k x) vs n = (flN S vs n).set (k * 2) (.int .i64 x.1)
  | 0 => rfl
  | n + 1 => by
    have hl := flN_len S vs n
    rw [flN, flN, flN_set S vs k x hk n]
    by_cases e : n = k
    · subst e
      rw [nth_setK S n x hk, List.set_eq_of_length_le (l := flN S vs n) (by omega)]
      rw [List.set_append_right _ _ (by omega), hl]
      simp
    · rw [nth_setN S k n x e]
      by_cases hlt : k < n
      · rw [List.set_append_left _ _ (by omega)]
      · rw [List.set_eq_of_length_le (l := flN S vs n) (by omega), List.set_eq_of_length_le (by simp; omega)]

/-- A block is marked: its Dc, then its numbers. -/
theorem OwnK.marked {w w3 : World} {base g cap k : Nat} {S : List (Int × List Int)} {vs : List Value} {q : Int} {ms : List Int} (h : OwnK w base (.slice (some ⟨g, 0, none⟩) S.length cap) S vs) (hk : k < S.length)
    (ht : Lone (vs.getD k (.bool false)) (w.setCell ⟨g, k * 2, none⟩ (.int .i64 q)) w3)
    (ho : Own w3 base 3 .i64 (vs.getD k (.bool false)) ms) : OwnK w3 base (.slice (some ⟨g, 0, none⟩) S.length cap) (S.set k (q, ms)) vs := by
  obtain ⟨h1, h2, h3, h4, h5⟩ := h
  have s2 := (h3.stored (k * 2) (.int .i64 q)).1
  rw [← flN_set S vs k (q, ms) hk S.length] at s2
  have hsz : w3.heap.size = w.heap.size := by rw [ht.1]; simp
  have hgk : ∀ m, (vs.getD k (.bool false)).ownBlock = some m → ∃ cap' cur, vs.getD k (.bool false) = .slice (some ⟨m, 0, none⟩) (nth S k).2.length cap' ∧ w.heap[m]? = some (.cells cur 3 (0, 0)) := by
    intro m e
    rcases (h4 k hk).2.2 with ⟨e1, _⟩ | ⟨g', cap', cur, hv, _, hh, _⟩
    · rw [e1] at e; cases e
    · have : g' = m := by rw [hv] at e; simpa [Value.ownBlock] using e
      subst this
      exact ⟨cap', cur, hv, hh⟩
  have hgr : ∃ cur, w.heap[g]? = some (.cells cur 71 (0, 0)) := by
    rcases h3.2 with ⟨e2, _⟩ | ⟨g2, _, cur2, hv2, _, hh2, _⟩
    · cases e2
    · cases hv2; exact ⟨cur2, hh2⟩
  have hrow : (vs.getD k (.bool false)).ownBlock ≠ some g := by
    intro e
    obtain ⟨_, cur, _, hh⟩ := hgk g e
    obtain ⟨cur2, hh2⟩ := hgr
    rw [hh] at hh2
    cases hh2
  refine ⟨by omega, by simp [h2], ?_, fun j hj => ?_, fun i j hij hj => h5 i j hij (by simpa using hj)⟩
  · rw [List.length_set]
    refine ⟨s2.1, ?_⟩
    rcases s2.2 with h0 | ⟨g', cap', cur, hv, hg, hh, r⟩
    · exact .inl h0
    · cases hv
      exact .inr ⟨g, cap, cur, rfl, hg, (ht.2 g hrow).trans hh, r⟩
  · have hj' : j < S.length := by simpa using hj
    by_cases e : j = k
    · subst e
      rw [nth_setK S j _ hk]
      exact ho
    · rw [nth_setN S k j _ e]
      have ho' := h4 j hj'
      refine ⟨by rw [hsz]; exact ho'.1, ho'.2.1, ?_⟩
      rcases ho'.2.2 with h0 | ⟨gj, capj, curj, hv, hg, hh, r⟩
      · exact .inl h0
      · refine .inr ⟨gj, capj, curj, hv, hg, ?_, r⟩
        have n1 : gj ≠ g := fun e' => by
          subst e'
          obtain ⟨cur2, hh2⟩ := hgr
          rw [hh] at hh2
          cases hh2
        have n2 : (vs.getD k (.bool false)).ownBlock ≠ some gj := by
          intro e'
          obtain ⟨cap', cur, hvk, _⟩ := hgk gj e'
          rcases Nat.lt_or_gt_of_ne e with hlt | hgt
          · have := h5 j k hlt hk _ _ _ _ _ _ hv hvk
            simp at this
          · have := h5 k j hgt hj' _ _ _ _ _ _ hvk hv
            simp at this
        rw [ht.2 gj n2, heap_setCell_other _ ⟨g, k * 2, none⟩ gj _ n1]
        exact hh

/-- Where the marks of the k-th step begin. -/
def stK (S : List (Int × List Int)) : Nat → Int
  | 0 => 1
  | k + 1 => stK S k + 1 + ((nth S k).2.length : Int)
theorem stK_le (S : List (Int × List Int)) (hs : ∀ k, k < S.length → (nth S k).2.length ≤ 63) : ∀ k, k ≤ S.length → 1 ≤ stK S k ∧ stK S k ≤ 1 + 64 * (k : Int)
  | 0, _ => by simp [stK]
  | k + 1, h => by
    have ih := stK_le S hs k (by omega)
    have := hs k (by omega)
    rw [stK]
    omega
/-- The marked step. -/
def mk1 (S : List (Int × List Int)) (k : Nat) : Int × List Int := (stK S k, marksF (stK S k + 1) (nth S k).2.length)
/-- The first k steps are marked. -/
def mkK (S : List (Int × List Int)) : Nat → List (Int × List Int)
  | 0 => S
  | k + 1 => (mkK S k).set k (mk1 S k)
theorem mkK_len (S : List (Int × List Int)) : ∀ k, (mkK S k).length = S.length
  | 0 => rfl
  | k + 1 => by rw [mkK, List.length_set, mkK_len S k]
theorem mkK_rest (S : List (Int × List Int)) : ∀ k j, k ≤ j → nth (mkK S k) j = nth S j
  | 0, _, _ => rfl
  | k + 1, j, h => by rw [mkK, nth_setN _ k j _ (by omega), mkK_rest S k j (by omega)]
theorem mkK_done (S : List (Int × List Int)) : ∀ k j, j < k → k ≤ S.length → nth (mkK S k) j = mk1 S j
  | k + 1, j, h, hk => by
    rw [mkK]
    by_cases e : j = k
    · subst e
      rw [nth_setK _ j _ (by rw [mkK_len]; omega)]
    · rw [nth_setN _ k j _ e, mkK_done S k j (by omega) (by omega)]

set_option maxRecDepth 100000 in
set_option maxHeartbeats 1600000 in
theorem markK (base : Nat) (v : Value) (S : List (Int × List Int)) (vs : List Value) (w : World) (hS : S.length ≤ 1600) (hs : ∀ s ∈ S, s.2.length ≤ 63) (ho : OwnK w base v S vs) :
    Calls Try.prog 19 #[v, .int .i64 1] w fun e w' => e = .returned (.int .i64 (stK S S.length)) ∧ OwnK w' base v (mkK S S.length) vs ∧ Below base w w' := by
  have HLE := hid (fun k (hk : k < S.length) => hs _ (nth_inK S k hk))
  have HST := hid (stK_le S HLE.out)
  rcases ho.2.2.1.2 with ⟨rfl, hz⟩ | ⟨g, cap, cur, rfl, hg, _⟩
  · have e : S = [] := List.length_eq_zero_iff.1 hz
    subst e
    have HO := hid ho
    clear ho
    go_enter Try.func19, Try.ntmps19
    go_wp2_with fail
    go_loop [1, 5] (fun m i => m = .int .i64 1 ∧ i = .int .i64 0) (fun _ _ => 0)
    case atStart => exact ⟨rfl, rfl⟩
    case round =>
      obtain ⟨rfl, rfl⟩ := hrel
      go_wp2_with fail
      go_ret
      exact ⟨rfl, HO.out, Below.refl _ _⟩
  · have HO := hid ho
    clear ho hs
    go_enter Try.func19, Try.ntmps19
    go_wp2_with fail
    go_loopw [1, 5] (fun r i wr => ∃ k : Nat, k ≤ S.length ∧ i = .int .i64 k ∧ r = .int .i64 (stK S k) ∧ Hid (OwnK wr base (.slice (some ⟨g, 0, none⟩) S.length cap) (mkK S k) vs) ∧ Hid (Below base w wr)) (fun _ i _ => S.length - (intOf i).toNat)
    case atStart => exact ⟨0, by omega, rfl, rfl, HO.out, Below.refl _ _⟩
    case round =>
      obtain ⟨k, hk, rfl, rfl, hown, hb⟩ := hrel
      have hst := HST.out k hk
      by_cases hlt : k < S.length
      · have hlt' : (k : Int) < (S.length : Int) := by omega
        have h11 := HLE.out k hlt
        have HNX := hid (show stK S (k + 1) = stK S k + 1 + ((nth S k).2.length : Int) from rfl)
        have HMK := hid (show mkK S (k + 1) = (mkK S k).set k (stK S k, marksF (stK S k + 1) (nth S k).2.length) from rfl)
        have hTl := mkK_len S k
        have hTn := mkK_rest S k k (Nat.le_refl _)
        generalize stK S k = q at *
        generalize mkK S k = T at *
        obtain ⟨o1, o2, o3, o4, o5⟩ := hown.out
        rw [← hTl] at o3
        have f := flN_at T vs T.length k (by omega)
        have p0 : wr.cell? ⟨g, k * 2, none⟩ = some (.int .i64 (nth T k).1) := by rw [o3.cellAt (k * 2) (by omega)]; exact f.1
        have z0 := o3.frozenAt (k * 2)
        have s1 := (o3.stored (k * 2) (.int .i64 q)).1
        have hgr : ∃ cur, wr.heap[g]? = some (.cells cur 71 (0, 0)) := by
          rcases o3.2 with ⟨e2, _⟩ | ⟨g2, _, cur2, hv2, _, hh2, _⟩
          · cases e2
          · cases hv2; exact ⟨cur2, hh2⟩
        have HOK : Hid (Own (wr.setCell ⟨g, k * 2, none⟩ (.int .i64 q)) base 3 .i64 (vs.getD k (.bool false)) (nth S k).2) := by
          refine hid ?_
          have ho' := o4 k (by omega)
          rw [hTn] at ho'
          refine ⟨by simpa using ho'.1, ho'.2.1, ?_⟩
          rcases ho'.2.2 with h0 | ⟨gj, capj, curj, hv, hg', hh, r⟩
          · exact .inl h0
          · refine .inr ⟨gj, capj, curj, hv, hg', ?_, r⟩
            have n1 : gj ≠ g := fun e' => by
              subst e'
              obtain ⟨cur2, hh2⟩ := hgr
              rw [hh] at hh2
              cases hh2
            rw [heap_setCell_other _ ⟨g, k * 2, none⟩ gj _ n1]
            exact hh
        have p2 : (wr.setCell ⟨g, k * 2, none⟩ (.int .i64 q)).cell? ⟨g, k * 2 + 1, none⟩ = some (vs.getD k (.bool false)) := by
          rw [s1.cellAt (k * 2 + 1) (by omega), List.getElem?_set_ne (by omega)]
          exact f.2
        obtain ⟨yo, yc, hy⟩ := HOK.out.shape
        have HB2 := hid (hb.out.setCell (p := ⟨g, k * 2, none⟩) hg (.int .i64 q))
        have HMARK := hid (fun w3 ms => OwnK.marked (w := wr) (w3 := w3) (base := base) (g := g) (cap := cap) (k := k) (S := T) (vs := vs) (q := q) (ms := ms) (by rw [hTl]; exact hown.out) (by omega))
        rw [hTl] at HMARK
        have HM := hid (markF (q + 1) (by omega) (by omega) base (vs.getD k (.bool false)) (nth S k).2 _ (by omega) HOK.out)
        generalize vs.getD k (.bool false) = Y at *
        subst hy
        generalize (nth T k).1 = X0 at *
        generalize (nth S k).2 = XS at *
        clear o1 o2 o3 o4 o5 f s1 hgr hTn HOK
        go_wp2_with fail
        refine HM.out.mono ?_
        rintro e w3 ⟨rfl, ho3, ht3, hb3⟩
        have HO3 := hid (HMARK.out w3 _ ht3 ho3)
        have HB3 := hid (HB2.out.trans hb3)
        clear ho3 ht3 hb3
        go_wp2_with fail
        go_roundw
        case rel => exact ⟨k + 1, by omega, by go_num, val_int (by rw [HNX.out]), by rw [HMK.out]; exact HO3.out, HB3.out⟩
        case measure => simp [intOf]; omega
      · obtain rfl : k = S.length := by omega
        go_wp2_with fail
        go_ret
        exact ⟨rfl, hown.out, hb.out⟩

set_option maxRecDepth 100000 in
set_option maxHeartbeats 1600000 in
theorem heldK (ao : Option Addr) (cap : Nat) (S : List (Int × List Int)) (w : World) (hS : S.length ≤ 1600) (hs : ∀ s ∈ S, s.2.length ≤ 63) (hv : BRow w ao (mkK S S.length)) :
    Calls Try.prog 25 #[.slice ao S.length cap, .int .i64 1] w fun e w' => e = .returned (.int .i64 (stK S S.length)) ∧ w = w' := by
  have HLE := hid (fun k (hk : k < S.length) => hs _ (nth_inK S k hk))
  have HST := hid (stK_le S HLE.out)
  have HV := hid hv
  clear hv hs
  go_enter Try.func25, Try.ntmps25
  go_wp2_with fail
  go_loop [1, 5] (fun r i => ∃ k : Nat, k ≤ S.length ∧ i = .int .i64 k ∧ r = .int .i64 (stK S k)) (fun _ i => S.length - (intOf i).toNat)
  case atStart => exact ⟨0, by omega, rfl, rfl⟩
  case round =>
    obtain ⟨k, hk, rfl, rfl⟩ := hrel
    have hst := HST.out k hk
    by_cases hlt : k < S.length
    · have hlt' : (k : Int) < (S.length : Int) := by omega
      have h11 := HLE.out k hlt
      have HNX := hid (show stK S (k + 1) = stK S k + 1 + ((nth S k).2.length : Int) from rfl)
      have hd := mkK_done S S.length k hlt (Nat.le_refl _)
      obtain ⟨b, off, a, c, rfl, hc1, hc3, hvw⟩ := HV.out k (by rw [mkK_len]; exact hlt)
      rw [hd] at hc1 hc3 hvw
      simp only [mk1, marksF_length] at hc1 hc3 hvw
      generalize stK S k = q at *
      generalize (nth S k).2.length = N at *
      have HH := hid (heldF (q + 1) (by omega) (by omega) (.slice a N c) N w (by omega) ⟨a, c, by rw [marksF_length], by rw [marksF_length]; exact hvw⟩)
      have hqq : (q != q) = false := by simp
      have hpos : ¬ (q + 1 + (N : Int) < 0) := by omega
      clear hvw hd
      go_wp2_with fail
      refine HH.out.mono ?_
      rintro e w2 ⟨rfl, rfl⟩
      go_wp2_with fail
      go_round
      case rel => exact ⟨k + 1, by omega, by go_num, val_int (by rw [HNX.out])⟩
      case measure => simp [intOf]; omega
    · obtain rfl : k = S.length := by omega
      go_wp2_with fail
      go_ret
      exact ⟨rfl, rfl⟩

end Go.Proofs.Ytcikmgdfelejpaa
