/- Contracts of the marks of steps. -/
import Derived.Test.YtdlookcklkdonabStpE
import Derived.Test.YtdlookcklkdonabRows4
namespace Go.Proofs.Ytdlookcklkdonab
open Go.RowKit
set_option linter.unusedVariables false

/-- The marks s, s + 1, .. -/
def mks (s : Int) (n : Nat) : List Int := (List.range n).map fun (i : Nat) => s + (i : Int)
theorem mks_length (s : Int) (n : Nat) : (mks s n).length = n := by simp [mks]
theorem mks_get (s : Int) (n j : Nat) (h : j < n) : (mks s n).getD j 0 = s + (j : Int) := by simp [mks, List.getD, h]

/-- Nothing has turned but the row of v. -/
def Touch (v : Value) (w w' : World) : Prop := w'.os = w.os ∧ w'.tape = w.tape ∧ w'.output = w.output ∧ w'.heap.size = w.heap.size ∧ ∀ k, v.ownBlock ≠ some k → w'.heap[k]? = w.heap[k]?
theorem Touch.ofOnly {g n c : Nat} {w w' : World} (h : Only g w w') : Touch (.slice (some ⟨g, 0, none⟩) n c) w w' := ⟨h.1, h.2.1, h.2.2.1, h.2.2.2.1, fun k hk => h.2.2.2.2 k (fun e => hk (by simp [Value.ownBlock, e]))⟩
theorem Touch.refl (v : Value) (w : World) : Touch v w w := ⟨rfl, rfl, rfl, rfl, fun _ _ => rfl⟩
theorem Touch.below {v : Value} {w w' : World} {B : Nat} (h : Touch v w w') (hb : ∀ k, v.ownBlock = some k → B ≤ k) : Below B w w' :=
  ⟨h.1, h.2.1, h.2.2.1, by rw [h.2.2.2.1]; exact Nat.le_refl _, fun k hk => h.2.2.2.2 k (fun e => by have := hb k e; omega)⟩

set_option maxHeartbeats 800000 in
theorem mark_s (base : Nat) (v : Value) (ys : List Int) (s : Int) (w : World) (hn : ys.length ≤ 1000000000) (h0 : 0 ≤ s) (h1 : s ≤ 1000000000) (ho : Own w base 3 .i64 v ys) :
    Calls Try.prog 14 #[v, .int .i64 s] w fun e w' => e = .returned (.int .i64 (s + ys.length)) ∧ Own w' base 3 .i64 v (mks s ys.length) ∧ Touch v w w' := by
  rcases ho.2.2 with ⟨rfl, hz⟩ | ⟨g, cap, cur, rfl, _⟩
  · have e : ys = [] := List.length_eq_zero_iff.1 hz
    subst e
    have HO := hid ho
    clear ho
    go_enter Try.func14, Try.ntmps14
    go_wp2
    go_loop [1, 5] (fun m i => m = .int .i64 s ∧ i = .int .i64 0) (fun _ _ => 0)
    case atStart => exact ⟨rfl, rfl⟩
    case round =>
      obtain ⟨rfl, rfl⟩ := hrel
      go_wp2
      go_ret
      exact ⟨ret_int (by simp), HO.out, Touch.refl _ _⟩
  · have HO := hid ho
    generalize hN : ys.length = n at *
    have HN := hid hN
    clear ho hN
    go_enter Try.func14, Try.ntmps14
    go_wp2
    go_loopw [1, 5] (fun m2 i wr => ∃ (k : Nat) (zs : List Int), k ≤ n ∧ i = .int .i64 k ∧ m2 = .int .i64 (s + (k : Int)) ∧ Hid (zs.length = n ∧ ∀ j, j < k → zs.getD j 0 = s + (j : Int)) ∧ Own wr base 3 .i64 (.slice (some ⟨g, 0, none⟩) n cap) zs ∧ Hid (Only g w wr)) (fun _ i _ => n - (intOf i).toNat)
    case atStart => exact ⟨0, ys, by omega, rfl, by simp, ⟨HN.out, fun j hj => by omega⟩, HO.out, Only.refl _ _⟩
    case round =>
      obtain ⟨k, zs, hk, rfl, rfl, hzs, hown, hb⟩ := hrel
      by_cases hlt : k < n
      · have hold := hown.at k (by have := hzs.out.1; omega)
        have hfree := hown.free k
        have HNEW := hid (hown.store k (s + (k : Int)))
        generalize zs.getD k 0 = Y at *
        go_wp2
        go_roundw
        case rel =>
          refine ⟨k + 1, _, by omega, by go_num, by go_num, ⟨by simp; exact hzs.out.1, fun j hj => ?_⟩, HNEW.out, hb.out.setCell k _⟩
          by_cases e : j = k
          · subst e
            simp [List.getD, hzs.out.1, hlt]
          · rw [← hzs.out.2 j (by omega)]
            simp [List.getD, show k ≠ j from fun h => e h.symm]
        case measure => simp [intOf]; omega
      · obtain rfl : k = n := by omega
        have hxy : zs = mks s k := list_eq_of_getD (by rw [hzs.out.1, mks_length]) (fun i hi => by rw [hzs.out.2 i (by rw [← hzs.out.1]; exact hi), mks_get s k i (by rw [← hzs.out.1]; exact hi)])
        subst hxy
        go_wp2
        go_ret
        exact ⟨rfl, hown, Touch.ofOnly hb.out⟩

set_option maxHeartbeats 800000 in
theorem held_s (ao : Option Addr) (n cap : Nat) (s : Int) (w : World) (hn : n ≤ 1000000000) (h0 : 0 ≤ s) (h1 : s ≤ 1000000000) (hv : View .i64 w ao n (mks s n)) :
    Calls Try.prog 15 #[.slice ao n cap, .int .i64 s] w fun e w' => e = .returned (.int .i64 (s + (n : Int))) ∧ w = w' := by
  have HV := hid hv
  clear hv
  go_enter Try.func15, Try.ntmps15
  go_wp2
  go_loop [1, 5] (fun m i => ∃ k : Nat, k ≤ n ∧ i = .int .i64 k ∧ m = .int .i64 (s + (k : Int))) (fun _ i => n - (intOf i).toNat)
  case atStart => exact ⟨0, by omega, rfl, by simp⟩
  case round =>
    obtain ⟨k, hk, rfl, rfl⟩ := hrel
    by_cases hlt : k < n
    · obtain ⟨b, off, rfl, hc⟩ := HV.out.2 k hlt
      rw [mks_get s n k hlt] at hc
      go_wp2
      go_round
      case rel => exact ⟨k + 1, by omega, by go_num, by go_num⟩
      case measure => simp [intOf]; omega
    · obtain rfl : k = n := by omega
      go_wp2
      go_ret
      exact ⟨rfl, rfl⟩

theorem flS_set (S : List (Int × Int × List Int)) (vs : List Value) (k : Nat) (x : Int × Int × List Int) (hk : k < S.length) : ∀ n, flS (S.set k x) vs n = ((flS S vs n).set (k * 3) (.int .i64 x.1)).set (k * 3 + 1) (.int .i64 x.2.1)
  | 0 => rfl
  | n + 1 => by
    have hl := flS_len S vs n
    rw [flS, flS, flS_set S vs k x hk n]
    by_cases e : n = k
    · subst e
      rw [nthS_set_self S n x hk, List.set_eq_of_length_le (l := flS S vs n) (by omega), List.set_eq_of_length_le (l := flS S vs n) (by omega)]
      rw [List.set_append_right _ _ (by omega), List.set_append_right _ _ (by omega), hl]
      simp [show n * 3 + 1 - n * 3 = 1 by omega]
    · rw [nthS_set_ne S k n x e]
      by_cases hlt : k < n
      · rw [List.set_append_left _ _ (by omega), List.set_append_left _ _ (by simp; omega)]
      · rw [List.set_eq_of_length_le (l := flS S vs n) (by omega), List.set_eq_of_length_le (l := flS S vs n) (by omega), List.set_eq_of_length_le (by simp; omega), List.set_eq_of_length_le (by simp; omega)]

/-- A step is marked: its two numbers, then its rest. -/
theorem OwnT.marked {w w3 : World} {base g cap k : Nat} {S : List (Int × Int × List Int)} {vs : List Value} {q q' : Int} {ms : List Int} (h : OwnT w base (.slice (some ⟨g, 0, none⟩) S.length cap) S vs) (hk : k < S.length)
    (ht : Touch (vs.getD k (.bool false)) ((w.setCell ⟨g, k * 3, none⟩ (.int .i64 q)).setCell ⟨g, k * 3 + 1, none⟩ (.int .i64 q')) w3)
    (ho : Own w3 base 3 .i64 (vs.getD k (.bool false)) ms) : OwnT w3 base (.slice (some ⟨g, 0, none⟩) S.length cap) (S.set k (q, q', ms)) vs := by
  obtain ⟨h1, h2, h3, h4, h5⟩ := h
  have s2 := ((h3.stored (k * 3) (.int .i64 q)).1.stored (k * 3 + 1) (.int .i64 q')).1
  rw [← flS_set S vs k (q, q', ms) hk S.length] at s2
  have hsz : w3.heap.size = w.heap.size := by rw [ht.2.2.2.1]; simp
  have hgk : ∀ m, (vs.getD k (.bool false)).ownBlock = some m → ∃ cap' cur, vs.getD k (.bool false) = .slice (some ⟨m, 0, none⟩) (nthS S k).2.2.length cap' ∧ w.heap[m]? = some (.cells cur 3 (0, 0)) := by
    intro m e
    rcases (h4 k hk).2.2 with ⟨e1, _⟩ | ⟨g', cap', cur, hv, _, hh, _⟩
    · rw [e1] at e; cases e
    · have : g' = m := by rw [hv] at e; simpa [Value.ownBlock] using e
      subst this
      exact ⟨cap', cur, hv, hh⟩
  have hgr : ∃ cur, w.heap[g]? = some (.cells cur 67 (0, 0)) := by
    rcases h3.2 with ⟨e2, _⟩ | ⟨g2, _, cur2, hv2, _, hh2, _⟩
    · cases e2
    · cases hv2; exact ⟨cur2, hh2⟩
  have hrow : (vs.getD k (.bool false)).ownBlock ≠ some g := by
    intro e
    obtain ⟨_, cur, _, hh⟩ := hgk g e
    obtain ⟨cur2, hh2⟩ := hgr
    rw [hh] at hh2
    cases hh2
  refine ⟨by omega, by simp [h2], ?_, fun j hj => ?_, fun i j hij hj => h5 i j hij (by simpa using hj)⟩
  · rw [List.length_set]
    refine ⟨s2.1, ?_⟩
    rcases s2.2 with h0 | ⟨g', cap', cur, hv, hg, hh, r⟩
    · exact .inl h0
    · cases hv
      exact .inr ⟨g, cap, cur, rfl, hg, (ht.2.2.2.2 g hrow).trans hh, r⟩
  · have hj' : j < S.length := by simpa using hj
    by_cases e : j = k
    · subst e
      rw [nthS_set_self S j _ hk]
      exact ho
    · rw [nthS_set_ne S k j _ e]
      have ho' := h4 j hj'
      refine ⟨by rw [hsz]; exact ho'.1, ho'.2.1, ?_⟩
      rcases ho'.2.2 with h0 | ⟨gj, capj, curj, hv, hg, hh, r⟩
      · exact .inl h0
      · refine .inr ⟨gj, capj, curj, hv, hg, ?_, r⟩
        have n1 : gj ≠ g := fun e' => by
          subst e'
          obtain ⟨cur2, hh2⟩ := hgr
          rw [hh] at hh2
          cases hh2
        have n2 : (vs.getD k (.bool false)).ownBlock ≠ some gj := by
          intro e'
          obtain ⟨cap', cur, hvk, _⟩ := hgk gj e'
          rcases Nat.lt_or_gt_of_ne e with hlt | hgt
          · have := h5 j k hlt hk _ _ _ _ _ _ hv hvk
            simp at this
          · have := h5 k j hgt hj' _ _ _ _ _ _ hvk hv
            simp at this
        rw [ht.2.2.2.2 gj n2, heap_setCell_other _ ⟨g, k * 3 + 1, none⟩ gj _ n1, heap_setCell_other _ ⟨g, k * 3, none⟩ gj _ n1]
        exact hh

/-- Where the marks of the k-th step begin. -/
def stM (S : List (Int × Int × List Int)) : Nat → Int
  | 0 => 1
  | k + 1 => stM S k + 2 + ((nthS S k).2.2.length : Int)
theorem stM_le (S : List (Int × Int × List Int)) (hs : ∀ k, k < S.length → (nthS S k).2.2.length ≤ 11) : ∀ k, k ≤ S.length → 1 ≤ stM S k ∧ stM S k ≤ 1 + 13 * (k : Int)
  | 0, _ => by simp [stM]
  | k + 1, h => by
    have ih := stM_le S hs k (by omega)
    have := hs k (by omega)
    rw [stM]
    omega
/-- The marked step. -/
def mkS (S : List (Int × Int × List Int)) (k : Nat) : Int × Int × List Int := (stM S k, stM S k + 1, mks (stM S k + 1 + 1) (nthS S k).2.2.length)
/-- The first k steps are marked. -/
def mkTo (S : List (Int × Int × List Int)) : Nat → List (Int × Int × List Int)
  | 0 => S
  | k + 1 => (mkTo S k).set k (mkS S k)
theorem mkTo_len (S : List (Int × Int × List Int)) : ∀ k, (mkTo S k).length = S.length
  | 0 => rfl
  | k + 1 => by rw [mkTo, List.length_set, mkTo_len S k]
theorem mkTo_rest (S : List (Int × Int × List Int)) : ∀ k j, k ≤ j → nthS (mkTo S k) j = nthS S j
  | 0, _, _ => rfl
  | k + 1, j, h => by rw [mkTo, nthS_set_ne _ k j _ (by omega), mkTo_rest S k j (by omega)]
theorem mkTo_done (S : List (Int × Int × List Int)) : ∀ k j, j < k → k ≤ S.length → nthS (mkTo S k) j = mkS S j
  | k + 1, j, h, hk => by
    rw [mkTo]
    by_cases e : j = k
    · subst e
      rw [nthS_set_self _ j _ (by rw [mkTo_len]; omega)]
    · rw [nthS_set_ne _ k j _ e, mkTo_done S k j (by omega) (by omega)]

set_option maxRecDepth 100000 in
set_option maxHeartbeats 1600000 in
theorem markStepS (base : Nat) (v : Value) (S : List (Int × Int × List Int)) (vs : List Value) (w : World) (hS : S.length ≤ 64) (hs : ∀ s ∈ S, s.2.2.length ≤ 11) (ho : OwnT w base v S vs) :
    Calls Try.prog 26 #[v, .int .i64 1] w fun e w' => e = .returned (.int .i64 (stM S S.length)) ∧ OwnT w' base v (mkTo S S.length) vs ∧ Below base w w' := by
  have HLE := hid (fun k (hk : k < S.length) => hs _ (nthS_mem S k hk))
  have HST := hid (stM_le S HLE.out)
  rcases ho.2.2.1.2 with ⟨rfl, hz⟩ | ⟨g, cap, cur, rfl, hg, _⟩
  · have e : S = [] := List.length_eq_zero_iff.1 hz
    subst e
    have HO := hid ho
    clear ho
    go_enter Try.func26, Try.ntmps26
    go_wp2_with fail
    go_loop [1, 5] (fun m i => m = .int .i64 1 ∧ i = .int .i64 0) (fun _ _ => 0)
    case atStart => exact ⟨rfl, rfl⟩
    case round =>
      obtain ⟨rfl, rfl⟩ := hrel
      go_wp2_with fail
      go_ret
      exact ⟨rfl, HO.out, Below.refl _ _⟩
  · have HO := hid ho
    clear ho hs
    go_enter Try.func26, Try.ntmps26
    go_wp2_with fail
    go_loopw [1, 5] (fun r i wr => ∃ k : Nat, k ≤ S.length ∧ i = .int .i64 k ∧ r = .int .i64 (stM S k) ∧ Hid (OwnT wr base (.slice (some ⟨g, 0, none⟩) S.length cap) (mkTo S k) vs) ∧ Hid (Below base w wr)) (fun _ i _ => S.length - (intOf i).toNat)
    case atStart => exact ⟨0, by omega, rfl, rfl, HO.out, Below.refl _ _⟩
    case round =>
      obtain ⟨k, hk, rfl, rfl, hown, hb⟩ := hrel
      have hst := HST.out k hk
      by_cases hlt : k < S.length
      · have hlt' : (k : Int) < (S.length : Int) := by omega
        have h11 := HLE.out k hlt
        have HNX := hid (show stM S (k + 1) = stM S k + 2 + ((nthS S k).2.2.length : Int) from rfl)
        have HMK := hid (show mkTo S (k + 1) = (mkTo S k).set k (stM S k, stM S k + 1, mks (stM S k + 1 + 1) (nthS S k).2.2.length) from rfl)
        have hTl := mkTo_len S k
        have hTn := mkTo_rest S k k (Nat.le_refl _)
        generalize stM S k = q at *
        generalize mkTo S k = T at *
        obtain ⟨o1, o2, o3, o4, o5⟩ := hown.out
        rw [← hTl] at o3
        have f := flS_at T vs T.length k (by omega)
        have p0 : wr.cell? ⟨g, k * 3, none⟩ = some (.int .i64 (nthS T k).1) := by rw [o3.cellAt (k * 3) (by omega)]; exact f.1
        have p1 : wr.cell? ⟨g, k * 3 + 1, none⟩ = some (.int .i64 (nthS T k).2.1) := by rw [o3.cellAt (k * 3 + 1) (by omega)]; exact f.2.1
        have z0 := o3.frozenAt (k * 3)
        have z1 := o3.frozenAt (k * 3 + 1)
        have s1 := (o3.stored (k * 3) (.int .i64 q)).1
        have s2 := (s1.stored (k * 3 + 1) (.int .i64 (q + 1))).1
        have hgr : ∃ cur, wr.heap[g]? = some (.cells cur 67 (0, 0)) := by
          rcases o3.2 with ⟨e2, _⟩ | ⟨g2, _, cur2, hv2, _, hh2, _⟩
          · cases e2
          · cases hv2; exact ⟨cur2, hh2⟩
        have HOK : Hid (Own ((wr.setCell ⟨g, k * 3, none⟩ (.int .i64 q)).setCell ⟨g, k * 3 + 1, none⟩ (.int .i64 (q + 1))) base 3 .i64 (vs.getD k (.bool false)) (nthS S k).2.2) := by
          refine hid ?_
          have ho' := o4 k (by omega)
          rw [hTn] at ho'
          refine ⟨by simpa using ho'.1, ho'.2.1, ?_⟩
          rcases ho'.2.2 with h0 | ⟨gj, capj, curj, hv, hg', hh, r⟩
          · exact .inl h0
          · refine .inr ⟨gj, capj, curj, hv, hg', ?_, r⟩
            have n1 : gj ≠ g := fun e' => by
              subst e'
              obtain ⟨cur2, hh2⟩ := hgr
              rw [hh] at hh2
              cases hh2
            rw [heap_setCell_other _ ⟨g, k * 3 + 1, none⟩ gj _ n1, heap_setCell_other _ ⟨g, k * 3, none⟩ gj _ n1]
            exact hh
        have p2 : ((wr.setCell ⟨g, k * 3, none⟩ (.int .i64 q)).setCell ⟨g, k * 3 + 1, none⟩ (.int .i64 (q + 1))).cell? ⟨g, k * 3 + 2, none⟩ = some (vs.getD k (.bool false)) := by
          rw [s2.cellAt (k * 3 + 2) (by omega), List.getElem?_set_ne (by omega), List.getElem?_set_ne (by omega)]
          exact f.2.2
        have p1' : (wr.setCell ⟨g, k * 3, none⟩ (.int .i64 q)).cell? ⟨g, k * 3 + 1, none⟩ = some (.int .i64 (nthS T k).2.1) := by
          rw [s1.cellAt (k * 3 + 1) (by omega), List.getElem?_set_ne (by omega)]
          exact f.2.1
        have z1' := s1.frozenAt (k * 3 + 1)
        obtain ⟨yo, yc, hy⟩ := HOK.out.shape
        have HB2 := hid ((hb.out.setCell (p := ⟨g, k * 3, none⟩) hg (.int .i64 q)).setCell (p := ⟨g, k * 3 + 1, none⟩) hg (.int .i64 (q + 1)))
        have HBK := hid (fun m e => (HOK.out.2.lt m e).1)
        have HMARK := hid (fun w3 ms => OwnT.marked (w := wr) (w3 := w3) (base := base) (g := g) (cap := cap) (k := k) (S := T) (vs := vs) (q := q) (q' := q + 1) (ms := ms) (by rw [hTl]; exact hown.out) (by omega))
        rw [hTl] at HMARK
        have HM := hid (mark_s base (vs.getD k (.bool false)) (nthS S k).2.2 (q + 1 + 1) _ (by omega) (by omega) (by omega) HOK.out)
        generalize vs.getD k (.bool false) = Y at *
        subst hy
        generalize (nthS T k).1 = X0 at *
        generalize (nthS T k).2.1 = X1 at *
        generalize (nthS S k).2.2 = XS at *
        clear o1 o2 o3 o4 o5 f s1 s2 hgr hTn HOK p1 z1
        go_wp2_with fail
        refine HM.out.mono ?_
        rintro e w3 ⟨rfl, ho3, ht3⟩
        have HO3 := hid (HMARK.out w3 _ ht3 ho3)
        have HB3 := hid (HB2.out.trans (ht3.below HBK.out))
        clear ho3 ht3
        go_wp2_with fail
        go_roundw
        case rel => exact ⟨k + 1, by omega, by go_num, val_int (by rw [HNX.out]; omega), by rw [HMK.out]; exact HO3.out, HB3.out⟩
        case measure => simp [intOf]; omega
      · obtain rfl : k = S.length := by omega
        go_wp2_with fail
        go_ret
        exact ⟨rfl, hown.out, hb.out⟩

set_option maxRecDepth 100000 in
set_option maxHeartbeats 1600000 in
theorem heldStepS (ao : Option Addr) (cap : Nat) (S : List (Int × Int × List Int)) (w : World) (hS : S.length ≤ 64) (hs : ∀ s ∈ S, s.2.2.length ≤ 11) (hv : SRow w ao (mkTo S S.length)) :
    Calls Try.prog 27 #[.slice ao S.length cap, .int .i64 1] w fun e w' => e = .returned (.int .i64 (stM S S.length)) ∧ w = w' := by
  have HLE := hid (fun k (hk : k < S.length) => hs _ (nthS_mem S k hk))
  have HST := hid (stM_le S HLE.out)
  have HV := hid hv
  clear hv hs
  go_enter Try.func27, Try.ntmps27
  go_wp2_with fail
  go_loop [1, 5] (fun r i => ∃ k : Nat, k ≤ S.length ∧ i = .int .i64 k ∧ r = .int .i64 (stM S k)) (fun _ i => S.length - (intOf i).toNat)
  case atStart => exact ⟨0, by omega, rfl, rfl⟩
  case round =>
    obtain ⟨k, hk, rfl, rfl⟩ := hrel
    have hst := HST.out k hk
    by_cases hlt : k < S.length
    · have hlt' : (k : Int) < (S.length : Int) := by omega
      have h11 := HLE.out k hlt
      have HNX := hid (show stM S (k + 1) = stM S k + 2 + ((nthS S k).2.2.length : Int) from rfl)
      have hd := mkTo_done S S.length k hlt (Nat.le_refl _)
      obtain ⟨b, off, a, c, rfl, hc1, hc2, hc3, hvw⟩ := HV.out k (by rw [mkTo_len]; exact hlt)
      rw [hd] at hc1 hc2 hc3 hvw
      simp only [mkS, mks_length] at hc1 hc2 hc3 hvw
      generalize stM S k = q at *
      generalize (nthS S k).2.2.length = N at *
      have HH := hid (held_s a N c (q + 1 + 1) w (by omega) (by omega) (by omega) hvw)
      have hqq : (q != q) = false := by simp
      have hqq1 : (q + 1 != q + 1) = false := by simp
      have hpos : ¬ (q + 1 + 1 + (N : Int) < 0) := by omega
      clear hvw hd
      go_wp2_with fail
      refine HH.out.mono ?_
      rintro e w2 ⟨rfl, rfl⟩
      go_wp2_with fail
      go_round
      case rel => exact ⟨k + 1, by omega, by go_num, val_int (by rw [HNX.out]; omega)⟩
      case measure => simp [intOf]; omega
    · obtain rfl : k = S.length := by omega
      go_wp2_with fail
      go_ret
      exact ⟨rfl, rfl⟩

set_option maxHeartbeats 800000 in
/-- The marks of a block: only its row turns. -/
theorem markBlock (base : Nat) (d : Int) (va : Value) (xs : List Int) (w : World) (h0 : xs.length ≤ 1048576) (hv : Own w base 3 .i64 va xs) :
    Calls Try.prog 25 #[.agg #[.int .i64 d, va], .int .i64 1] w fun e w' => (∃ r : Int, e = .returned (.int .i64 r) ∧ 0 ≤ r) ∧ (∀ m, va.ownBlock ≠ some m → m < w.heap.size → w'.heap[m]? = w.heap[m]?) ∧ w.heap.size ≤ w'.heap.size ∧ Below base w w' := by
  obtain ⟨ao, ac, rfl⟩ := hv.shape
  have hb := hv.1
  have HB0 := hid ((Below.refl w.heap.size w).alloc (Nat.le_refl _) (.cells #[.int .i64 d, .slice ao xs.length ac] 37))
  have HT := hid (Two.new w (.int .i64 d) (.slice ao xs.length ac) 37)
  have HM := hid (mark_s base _ xs 1 _ (by omega) (by decide) (by decide) (hv.below HB0.out))
  have HBK := hid (fun m e => (hv.2.lt m e).1)
  clear hv
  go_enter Try.func25, Try.ntmps25
  go_wp2_with fail
  refine HM.out.mono ?_
  generalize w.alloc (.cells #[.int .i64 d, .slice ao xs.length ac] 37) = wa at *
  rintro e w1 ⟨rfl, _, ht⟩
  have HB1 := hid ((HB0.out.mono hb).trans (ht.below HBK.out))
  have HQ := hid (fun m (h1 : (Value.slice ao xs.length ac).ownBlock ≠ some m) (h2 : m < w.heap.size) => (ht.2.2.2.2 m h1).trans (HB0.out.block m h2))
  have HZ := hid (show w.heap.size ≤ w1.heap.size by rw [ht.2.2.2.1]; exact HB0.out.size)
  clear ht
  go_wp2
  go_ret
  exact ⟨⟨_, rfl, by omega⟩, HQ.out, HZ.out, HB1.out⟩
end Go.Proofs.Ytdlookcklkdonab
