/- Marks of a picture that is the call's own: tables and blocks. -/
import Derived.Test.YtnnakmgngkpghaaGreatE8
import Derived.Test.YtnnakmgngkpghaaGreatKpb
import Derived.Test.YtnnakmgngkpghaaGreatMt
import Derived.Test.YtnnakmgngkpghaaGreatBtd
namespace Go.Proofs.YtnnakmgngkpghaaGreat
open Go.RowKit Go.Maps
set_option linter.unusedVariables false

theorem nth_setK (S : List (Int × List Int)) (k : Nat) (x : Int × List Int) (h : k < S.length) : nth (S.set k x) k = x := by simp [nth, List.getD, h]
theorem nth_setN (S : List (Int × List Int)) (k j : Nat) (x : Int × List Int) (h : j ≠ k) : nth (S.set k x) j = nth S j := by simp [nth, List.getD, List.getElem?_set_ne (show k ≠ j from fun e => h e.symm)]
theorem nth_inK (S : List (Int × List Int)) (j : Nat) (h : j < S.length) : nth S j ∈ S := by simp [nth, List.getD, h]
theorem flN_set (S : List (Int × List Int)) (vs : List Value) (k : Nat) (x : Int × List Int) (hk : k < S.length) : ∀ n, flN (S.set k x) vs n = (flN S vs n).set (k * 2) (.int .i64 x.1)
  | 0 => rfl
  | n + 1 => by
    have hl := flN_len S vs n
    rw [flN, flN, flN_set S vs k x hk n]
    by_cases e : n = k
    · subst e
      rw [nth_setK S n x hk, List.set_eq_of_length_le (l := flN S vs n) (by omega)]
      rw [List.set_append_right _ _ (by omega), hl]
      simp
    · rw [nth_setN S k n x e]
      by_cases hlt : k < n
      · rw [List.set_append_left _ _ (by omega)]
      · rw [List.set_eq_of_length_le (l := flN S vs n) (by omega), List.set_eq_of_length_le (by simp; omega)]

/-- A block is marked: its Dc, then its numbers. -/
theorem OwnK.marked {w w3 : World} {base g cap k : Nat} {S : List (Int × List Int)} {vs : List Value} {q : Int} {ms : List Int} (h : OwnK w base (.slice (some ⟨g, 0, none⟩) S.length cap) S vs) (hk : k < S.length)
    (ht : Lone (vs.getD k (.bool false)) (w.setCell ⟨g, k * 2, none⟩ (.int .i64 q)) w3)
    (ho : Own w3 base 3 .i64 (vs.getD k (.bool false)) ms) : OwnK w3 base (.slice (some ⟨g, 0, none⟩) S.length cap) (S.set k (q, ms)) vs := by
  obtain ⟨h1, h2, h3, h4, h5⟩ := h
  have s2 := (h3.stored (k * 2) (.int .i64 q)).1
  rw [← flN_set S vs k (q, ms) hk S.length] at s2
  have hsz : w3.heap.size = w.heap.size := by rw [ht.1]; simp
  have hgk : ∀ m, (vs.getD k (.bool false)).ownBlock = some m → ∃ cap' cur, vs.getD k (.bool false) = .slice (some ⟨m, 0, none⟩) (nth S k).2.length cap' ∧ w.heap[m]? = some (.cells cur 3 (0, 0)) := by
    intro m e
    rcases (h4 k hk).2.2 with ⟨e1, _⟩ | ⟨g', cap', cur, hv, _, hh, _⟩
    · rw [e1] at e; cases e
    · have : g' = m := by rw [hv] at e; simpa [Value.ownBlock] using e
      subst this
      exact ⟨cap', cur, hv, hh⟩
  have hgr : ∃ cur, w.heap[g]? = some (.cells cur 65 (0, 0)) := by
    rcases h3.2 with ⟨e2, _⟩ | ⟨g2, _, cur2, hv2, _, hh2, _⟩
    · cases e2
    · cases hv2; exact ⟨cur2, hh2⟩
  have hrow : (vs.getD k (.bool false)).ownBlock ≠ some g := by
    intro e
    obtain ⟨_, cur, _, hh⟩ := hgk g e
    obtain ⟨cur2, hh2⟩ := hgr
    rw [hh] at hh2
    cases hh2
  refine ⟨by omega, by simp [h2], ?_, fun j hj => ?_, fun i j hij hj => h5 i j hij (by simpa using hj)⟩
  · rw [List.length_set]
    refine ⟨s2.1, ?_⟩
    rcases s2.2 with h0 | ⟨g', cap', cur, hv, hg, hh, r⟩
    · exact .inl h0
    · cases hv
      exact .inr ⟨g, cap, cur, rfl, hg, (ht.2 g hrow).trans hh, r⟩
  · have hj' : j < S.length := by simpa using hj
    by_cases e : j = k
    · subst e
      rw [nth_setK S j _ hk]
      exact ho
    · rw [nth_setN S k j _ e]
      have ho' := h4 j hj'
      refine ⟨by rw [hsz]; exact ho'.1, ho'.2.1, ?_⟩
      rcases ho'.2.2 with h0 | ⟨gj, capj, curj, hv, hg, hh, r⟩
      · exact .inl h0
      · refine .inr ⟨gj, capj, curj, hv, hg, ?_, r⟩
        have n1 : gj ≠ g := fun e' => by
          subst e'
          obtain ⟨cur2, hh2⟩ := hgr
          rw [hh] at hh2
          cases hh2
        have n2 : (vs.getD k (.bool false)).ownBlock ≠ some gj := by
          intro e'
          obtain ⟨cap', cur, hvk, _⟩ := hgk gj e'
          rcases Nat.lt_or_gt_of_ne e with hlt | hgt
          · have := h5 j k hlt hk _ _ _ _ _ _ hv hvk
            simp at this
          · have := h5 k j hgt hj' _ _ _ _ _ _ hvk hv
            simp at this
        rw [ht.2 gj n2, heap_setCell_other _ ⟨g, k * 2, none⟩ gj _ n1]
        exact hh

/-- Where the marks of the k-th block begin. -/
def stG (s0 : Int) (S : List (Int × List Int)) : Nat → Int
  | 0 => s0
  | k + 1 => stG s0 S k + 1 + ((nth S k).2.length : Int)
theorem stG_le (s0 : Int) (S : List (Int × List Int)) (hs : ∀ k, k < S.length → (nth S k).2.length ≤ 63) : ∀ k, k ≤ S.length → s0 ≤ stG s0 S k ∧ stG s0 S k ≤ s0 + 64 * (k : Int)
  | 0, _ => by simp [stG]
  | k + 1, h => by
    have ih := stG_le s0 S hs k (by omega)
    have := hs k (by omega)
    rw [stG]
    omega
/-- The marked block. -/
def mk1 (s0 : Int) (S : List (Int × List Int)) (k : Nat) : Int × List Int := (stG s0 S k, marksF (stG s0 S k + 1) (nth S k).2.length)
/-- The first k blocks are marked. -/
def mkG (s0 : Int) (S : List (Int × List Int)) : Nat → List (Int × List Int)
  | 0 => S
  | k + 1 => (mkG s0 S k).set k (mk1 s0 S k)
theorem mkG_len (s0 : Int) (S : List (Int × List Int)) : ∀ k, (mkG s0 S k).length = S.length
  | 0 => rfl
  | k + 1 => by rw [mkG, List.length_set, mkG_len s0 S k]
theorem mkG_rest (s0 : Int) (S : List (Int × List Int)) : ∀ k j, k ≤ j → nth (mkG s0 S k) j = nth S j
  | 0, _, _ => rfl
  | k + 1, j, h => by rw [mkG, nth_setN _ k j _ (by omega), mkG_rest s0 S k j (by omega)]
theorem mkG_done (s0 : Int) (S : List (Int × List Int)) : ∀ k j, j < k → k ≤ S.length → nth (mkG s0 S k) j = mk1 s0 S j
  | k + 1, j, h, hk => by
    rw [mkG]
    by_cases e : j = k
    · subst e
      rw [nth_setK _ j _ (by rw [mkG_len]; omega)]
    · rw [nth_setN _ k j _ e, mkG_done s0 S k j (by omega) (by omega)]
theorem own_sg {g cap n m b : Nat} (h : (Value.slice (some ⟨g, 0, none⟩) n cap).ownBlock = some b) (hm : g < m) : b < m := by
  have e : g = b := by simpa [Value.ownBlock] using h
  omega
theorem Spare.wider {B B' m m' : Nat} {w w' : World} (h : Spare B m w w') (hB : B' ≤ B) (hm : m ≤ m') : Spare B' m' w w' := ⟨h.1, h.2.1, h.2.2.1, h.2.2.2.1, fun g hg hc => h.2.2.2.2 g hg (by omega)⟩
theorem Spare.ofLone {base m : Nat} {v : Value} {w w' : World} (hb : Below base w w') (hl : Lone v w w') (hm : ∀ g, v.ownBlock = some g → g < m) : Spare base m w w' :=
  ⟨hb.os, hb.tape, hb.output, hb.size, fun g _ hc => by
    rcases hc with h | h
    · exact hb.block g h
    · exact hl.2 g (fun e => by have := hm g e; omega)⟩
theorem Own.ltOf {w : World} {b m : Nat} {v : Value} {xs : List Int} (h : Own w b 3 .i64 v xs) (hm : ∀ a n c, v = .slice (some a) n c → a.block < m) (g : Nat) (hg : v.ownBlock = some g) : g < m := by
  obtain ⟨ao, c, rfl⟩ := h.shape
  cases ao with
  | none => simp [Value.ownBlock] at hg
  | some a =>
    have e : a.block = g := by simpa [Value.ownBlock] using hg
    have := hm a _ _ rfl
    omega

set_option maxRecDepth 100000 in
set_option maxHeartbeats 1600000 in
theorem markKG (base m : Nat) (s0 : Int) (hs0 : 1 ≤ s0) (hs1 : s0 ≤ 100000000) (v : Value) (S : List (Int × List Int)) (vs : List Value) (w : World) (hS : S.length ≤ 1600) (hs : ∀ s ∈ S, s.2.length ≤ 63) (ho : OwnK w base v S vs) (hm0 : ∀ a n c, v = .slice (some a) n c → a.block < m) (hm1 : ∀ j, j < S.length → ∀ a n c, vs.getD j (.bool false) = .slice (some a) n c → a.block < m) :
    Calls Tryz.prog 32 #[v, .int .i64 s0] w fun e w' => e = .returned (.int .i64 (stG s0 S S.length)) ∧ OwnK w' base v (mkG s0 S S.length) vs ∧ Spare base m w w' := by
  have HLE := hid (fun k (hk : k < S.length) => hs _ (nth_inK S k hk))
  have HST := hid (stG_le s0 S HLE.out)
  rcases ho.2.2.1.2 with ⟨rfl, hz⟩ | ⟨g, cap, cur, rfl, hg, _⟩
  · have e : S = [] := List.length_eq_zero_iff.1 hz
    subst e
    have HO := hid ho
    clear ho
    go_enter Tryz.func32, Tryz.ntmps32
    go_wp2_with fail
    go_loop [1, 5] (fun m i => m = .int .i64 s0 ∧ i = .int .i64 0) (fun _ _ => 0)
    case atStart => exact ⟨rfl, rfl⟩
    case round =>
      obtain ⟨rfl, rfl⟩ := hrel
      go_wp2_with fail
      go_ret
      exact ⟨rfl, HO.out, Spare.refl _ _ _⟩
  · have HO := hid ho
    have hgm : g < m := hm0 ⟨g, 0, none⟩ _ _ rfl
    have HM1 := hid hm1
    clear ho hs hm0 hm1
    go_enter Tryz.func32, Tryz.ntmps32
    go_wp2_with fail
    go_loopw [1, 5] (fun r i wr => ∃ k : Nat, k ≤ S.length ∧ i = .int .i64 k ∧ r = .int .i64 (stG s0 S k) ∧ Hid (OwnK wr base (.slice (some ⟨g, 0, none⟩) S.length cap) (mkG s0 S k) vs) ∧ Hid (Spare base m w wr)) (fun _ i _ => S.length - (intOf i).toNat)
    case atStart => exact ⟨0, by omega, rfl, rfl, HO.out, Spare.refl _ _ _⟩
    case round =>
      obtain ⟨k, hk, rfl, rfl, hown, hb⟩ := hrel
      have hst := HST.out k hk
      by_cases hlt : k < S.length
      · have hlt' : (k : Int) < (S.length : Int) := by omega
        have h11 := HLE.out k hlt
        have HNX := hid (show stG s0 S (k + 1) = stG s0 S k + 1 + ((nth S k).2.length : Int) from rfl)
        have HMK := hid (show mkG s0 S (k + 1) = (mkG s0 S k).set k (stG s0 S k, marksF (stG s0 S k + 1) (nth S k).2.length) from rfl)
        have hTl := mkG_len s0 S k
        have hTn := mkG_rest s0 S k k (Nat.le_refl _)
        generalize stG s0 S k = q at *
        generalize mkG s0 S k = T at *
        obtain ⟨o1, o2, o3, o4, o5⟩ := hown.out
        rw [← hTl] at o3
        have f := flN_at T vs T.length k (by omega)
        have p0 : wr.cell? ⟨g, k * 2, none⟩ = some (.int .i64 (nth T k).1) := by rw [o3.cellAt (k * 2) (by omega)]; exact f.1
        have z0 := o3.frozenAt (k * 2)
        have s1 := (o3.stored (k * 2) (.int .i64 q)).1
        have hgr : ∃ cur, wr.heap[g]? = some (.cells cur 65 (0, 0)) := by
          rcases o3.2 with ⟨e2, _⟩ | ⟨g2, _, cur2, hv2, _, hh2, _⟩
          · cases e2
          · cases hv2; exact ⟨cur2, hh2⟩
        have HOK : Hid (Own (wr.setCell ⟨g, k * 2, none⟩ (.int .i64 q)) base 3 .i64 (vs.getD k (.bool false)) (nth S k).2) := by
          refine hid ?_
          have ho' := o4 k (by omega)
          rw [hTn] at ho'
          refine ⟨by simpa using ho'.1, ho'.2.1, ?_⟩
          rcases ho'.2.2 with h0 | ⟨gj, capj, curj, hv, hg', hh, r⟩
          · exact .inl h0
          · refine .inr ⟨gj, capj, curj, hv, hg', ?_, r⟩
            have n1 : gj ≠ g := fun e' => by
              subst e'
              obtain ⟨cur2, hh2⟩ := hgr
              rw [hh] at hh2
              cases hh2
            rw [heap_setCell_other _ ⟨g, k * 2, none⟩ gj _ n1]
            exact hh
        have p2 : (wr.setCell ⟨g, k * 2, none⟩ (.int .i64 q)).cell? ⟨g, k * 2 + 1, none⟩ = some (vs.getD k (.bool false)) := by
          rw [s1.cellAt (k * 2 + 1) (by omega), List.getElem?_set_ne (by omega)]
          exact f.2
        obtain ⟨yo, yc, hy⟩ := HOK.out.shape
        have HB2 := hid (hb.out.trans (Spare.ofLone (m := m) (v := .slice (some ⟨g, 0, none⟩) S.length cap) ((Below.refl base wr).setCell (p := ⟨g, k * 2, none⟩) hg (.int .i64 q)) ⟨by simp, fun b hb' => heap_setCell_other _ ⟨g, k * 2, none⟩ b _ (fun e => hb' (by rw [e]; rfl))⟩ (fun b hb' => own_sg hb' hgm)))
        have HY := hid (HOK.out.ltOf (HM1.out k hlt))
        have HMARK := hid (fun w3 ms => OwnK.marked (w := wr) (w3 := w3) (base := base) (g := g) (cap := cap) (k := k) (S := T) (vs := vs) (q := q) (ms := ms) (by rw [hTl]; exact hown.out) (by omega))
        rw [hTl] at HMARK
        have HM := hid (markF (q + 1) (by omega) (by omega) base (vs.getD k (.bool false)) (nth S k).2 _ (by omega) HOK.out)
        generalize vs.getD k (.bool false) = Y at *
        subst hy
        generalize (nth T k).1 = X0 at *
        generalize (nth S k).2 = XS at *
        clear o1 o2 o3 o4 o5 f s1 hgr hTn HOK
        go_wp2_with fail
        refine HM.out.mono ?_
        rintro e w3 ⟨rfl, ho3, ht3, hb3⟩
        have HO3 := hid (HMARK.out w3 _ ht3 ho3)
        have HB3 := hid (HB2.out.trans (Spare.ofLone hb3 ht3 HY.out))
        clear ho3 ht3 hb3
        go_wp2_with fail
        go_roundw
        case rel => exact ⟨k + 1, by omega, by go_num, val_int (by rw [HNX.out]), by rw [HMK.out]; exact HO3.out, HB3.out⟩
        case measure => simp [intOf]; omega
      · obtain rfl : k = S.length := by omega
        go_wp2_with fail
        go_ret
        exact ⟨rfl, hown.out, hb.out⟩

set_option maxRecDepth 100000 in
set_option maxHeartbeats 1600000 in
theorem heldKG (s0 : Int) (hs0 : 1 ≤ s0) (hs1 : s0 ≤ 100000000) (ao : Option Addr) (cap : Nat) (S : List (Int × List Int)) (w : World) (hS : S.length ≤ 1600) (hs : ∀ s ∈ S, s.2.length ≤ 63) (hv : BRow w ao (mkG s0 S S.length)) :
    Calls Tryz.prog 34 #[.slice ao S.length cap, .int .i64 s0] w fun e w' => e = .returned (.int .i64 (stG s0 S S.length)) ∧ w = w' := by
  have HLE := hid (fun k (hk : k < S.length) => hs _ (nth_inK S k hk))
  have HST := hid (stG_le s0 S HLE.out)
  have HV := hid hv
  clear hv hs
  go_enter Tryz.func34, Tryz.ntmps34
  go_wp2_with fail
  go_loop [1, 5] (fun r i => ∃ k : Nat, k ≤ S.length ∧ i = .int .i64 k ∧ r = .int .i64 (stG s0 S k)) (fun _ i => S.length - (intOf i).toNat)
  case atStart => exact ⟨0, by omega, rfl, rfl⟩
  case round =>
    obtain ⟨k, hk, rfl, rfl⟩ := hrel
    have hst := HST.out k hk
    by_cases hlt : k < S.length
    · have hlt' : (k : Int) < (S.length : Int) := by omega
      have h11 := HLE.out k hlt
      have HNX := hid (show stG s0 S (k + 1) = stG s0 S k + 1 + ((nth S k).2.length : Int) from rfl)
      have hd := mkG_done s0 S S.length k hlt (Nat.le_refl _)
      obtain ⟨b, off, a, c, rfl, hc1, hc3, hvw⟩ := HV.out k (by rw [mkG_len]; exact hlt)
      rw [hd] at hc1 hc3 hvw
      simp only [mk1, marksF_length] at hc1 hc3 hvw
      generalize stG s0 S k = q at *
      generalize (nth S k).2.length = N at *
      have HH := hid (heldF (q + 1) (by omega) (by omega) (.slice a N c) N w (by omega) ⟨a, c, by rw [marksF_length], by rw [marksF_length]; exact hvw⟩)
      have hqq : (q != q) = false := by simp
      have hpos : ¬ (q + 1 + (N : Int) < 0) := by omega
      clear hvw hd
      go_wp2_with fail
      refine HH.out.mono ?_
      rintro e w2 ⟨rfl, rfl⟩
      go_wp2_with fail
      go_round
      case rel => exact ⟨k + 1, by omega, by go_num, val_int (by rw [HNX.out])⟩
      case measure => simp [intOf]; omega
    · obtain rfl : k = S.length := by omega
      go_wp2_with fail
      go_ret
      exact ⟨rfl, rfl⟩


set_option maxHeartbeats 800000 in
/-- The marks are written into own codes, and nowhere else. -/
theorem markCs (base m hi : Nat) (s : Int) (hs0 : 1 ≤ s) (hs1 : s ≤ 100000000) (va vb : Value) (cs ss : List Int) (w : World) (h0 : cs.length ≤ 1048576) (h1 : ss.length ≤ 1048576) (hm : base ≤ m) (o0 : Own w base 3 .i64 va cs) (o1 : Own w m 3 .i64 vb ss)
    (hap : ∀ g, va.ownBlock = some g → g < m) (hla : ∀ g, va.ownBlock = some g → g < hi) (hlb : ∀ g, vb.ownBlock = some g → g < hi) (hso : hi ≤ w.heap.size) :
    Calls Tryz.prog 51 #[.agg #[va, vb], .int .i64 s] w fun e w' => e = .returned (.int .i64 (s + (cs.length : Int) + (ss.length : Int))) ∧ Own w' base 3 .i64 va (marksF s cs.length) ∧ Own w' m 3 .i64 vb (marksF (s + (cs.length : Int)) ss.length) ∧ Spare base hi w w' := by
  have hbw : base ≤ w.heap.size := o0.1
  obtain ⟨a0, c0, rfl⟩ := o0.shape
  obtain ⟨a1, c1, rfl⟩ := o1.shape
  have HLA := hid hla
  have HLB := hid hlb
  have HAP := hid hap
  have HB := hid ((Below.refl w.heap.size w).alloc (Nat.le_refl _) (.cells #[.slice a0 cs.length c0, .slice a1 ss.length c1] 31))
  have HT := hid (Two.new w (.slice a0 cs.length c0) (.slice a1 ss.length c1) 31)
  have I0 := hid (o0.below HB.out)
  have I1 := hid (o1.below HB.out)
  have N0 := hid (fun g hg => (o0.2.lt g hg).2)
  have N1 := hid (fun g hg => o1.2.lt g hg)
  clear o0 o1 hap hla hlb
  go_enter Tryz.func51, Tryz.ntmps51
  go_wp2_with fail
  refine (markF s (by omega) (by omega) base (.slice a0 cs.length c0) cs _ (by omega) I0.out).mono ?_
  generalize w.alloc (.cells #[.slice a0 cs.length c0, .slice a1 ss.length c1] 31) = wa at *
  rintro e w1 ⟨rfl, hg1, hln, hb1⟩
  have T1 := hid (show Two w1 w.heap.size (.slice a0 cs.length c0) (.slice a1 ss.length c1) 31 from (hln.2 w.heap.size (fun e => by have := N0.out _ e; omega)).trans HT.out)
  have J1 := hid (I1.out.lone hln (fun g h h' => by have := HAP.out g h; have := N1.out g h'; omega))
  have J0 := hid hg1
  have B1 := hid ((HB.out.mono hbw).trans hb1)
  have S1 : Hid (∀ b, hi ≤ b → b < w.heap.size → w1.heap[b]? = w.heap[b]?) := fun b h1 h2 => (hln.2 b (fun e => by have := HLA.out b e; omega)).trans (HB.out.block b h2)
  clear hg1 hln hb1 I0 I1 HT HB
  obtain ⟨q0, q1, q2, q3⟩ := T1.out.cells
  go_wp2_with fail
  refine (markF (s + (cs.length : Int)) (by omega) (by omega) m (.slice a1 ss.length c1) ss _ (by omega) J1.out).mono ?_
  rintro e w2 ⟨rfl, hg2, hln, hb2⟩
  have K0 := hid (J0.out.lone hln (fun g h h' => by have := N1.out g h; have := HAP.out g h'; omega))
  have K1 := hid hg2
  have B2 := hid (B1.out.trans (hb2.mono hm))
  have S2 : Hid (Spare base hi w w2) := ⟨B2.out.os, B2.out.tape, B2.out.output, B2.out.size, fun g hg hh => by
    rcases hh with h | h
    · exact B2.out.block g h
    · exact (hln.2 g (fun e => by have := HLB.out g e; omega)).trans (S1.out g h hg)⟩
  clear hg2 hln hb2 J0 J1
  go_wp2_with fail
  go_ret
  exact ⟨rfl, K0.out, K1.out, S2.out⟩

set_option maxHeartbeats 800000 in
theorem heldCs (s : Int) (hs0 : 1 ≤ s) (hs1 : s ≤ 100000000) (v : Value) (n0 n1 : Nat) (w : World) (h0 : n0 ≤ 1048576) (h1 : n1 ≤ 1048576) (hv : CV w v (marksF s n0) (marksF (s + (n0 : Int)) n1)) :
    Calls Tryz.prog 53 #[v, .int .i64 s] w fun e w' => e = .returned (.int .i64 (s + (n0 : Int) + (n1 : Int))) ∧ Below w.heap.size w w' := by
  obtain ⟨a0, c0, a1, c1, rfl, u0, u1⟩ := hv
  rw [marksF_length] at u0 u1 ⊢
  rw [marksF_length]
  have HB := hid ((Below.refl w.heap.size w).alloc (Nat.le_refl _) (.cells #[.slice a0 n0 c0, .slice a1 n1 c1] 31))
  have HT := hid (Two.new w (.slice a0 n0 c0) (.slice a1 n1 c1) 31)
  have V0 : Hid (Vw (w.alloc (.cells #[.slice a0 n0 c0, .slice a1 n1 c1] 31)) (.slice a0 n0 c0) (marksF s n0)) := ⟨a0, c0, by rw [marksF_length], by rw [marksF_length]; exact u0.below (Nat.le_refl _) HB.out⟩
  have V1 : Hid (Vw (w.alloc (.cells #[.slice a0 n0 c0, .slice a1 n1 c1] 31)) (.slice a1 n1 c1) (marksF (s + (n0 : Int)) n1)) := ⟨a1, c1, by rw [marksF_length], by rw [marksF_length]; exact u1.below (Nat.le_refl _) HB.out⟩
  clear u0 u1
  obtain ⟨q0, q1, q2, q3⟩ := HT.out.cells
  have hp0 : ¬ (s + (n0 : Int) < 0) := by omega
  have hp1 : ¬ (s + (n0 : Int) + (n1 : Int) < 0) := by omega
  go_enter Tryz.func53, Tryz.ntmps53
  go_wp2_with fail
  refine (heldF s (by omega) (by omega) _ n0 _ (by omega) V0.out).mono ?_
  rintro e w1 ⟨rfl, rfl⟩
  go_wp2_with fail
  refine (heldF (s + (n0 : Int)) (by omega) (by omega) _ n1 _ (by omega) V1.out).mono ?_
  rintro e w1 ⟨rfl, rfl⟩
  go_wp2_with fail
  go_ret
  exact ⟨rfl, HB.out⟩

/-- The block of a slice lies below hi. -/
def Blt (v : Value) (hi : Nat) : Prop := ∀ g, v.ownBlock = some g → g < hi
/-- The tables with their marks. -/
def mkT (s : Int) (T : Tb) : Tb := ⟨marksF s T.cs.length, marksF (s + (T.cs.length : Int)) T.ss.length, marksF (s + (T.cs.length : Int) + (T.ss.length : Int)) T.ct.length, marksF (s + (T.cs.length : Int) + (T.ss.length : Int) + (T.ct.length : Int)) T.st.length⟩
/-- The number behind the marks of the tables. -/
def numT (s : Int) (T : Tb) : Int := s + (T.cs.length : Int) + (T.ss.length : Int) + (T.ct.length : Int) + (T.st.length : Int)

set_option maxRecDepth 20000 in
set_option maxHeartbeats 1600000 in
theorem markTT (base : Nat) (s : Int) (hs0 : 1 ≤ s) (hs1 : s ≤ 1000000) (v : Value) (T : Tb) (hi : Nat) (w : World) (h0 : T.cs.length ≤ 1048576) (h1 : T.ss.length ≤ 1048576) (h2 : T.ct.length ≤ 1048576) (h3 : T.st.length ≤ 1048576) (ht : TT w base v T.cs T.ss T.ct T.st) (hq : ∀ x0 x1 x2 x3, v = .agg #[x0, x1, x2, x3] → Blt x0 hi ∧ Blt x1 hi ∧ Blt x2 hi ∧ Blt x3 hi) (hhi : hi ≤ w.heap.size) :
    Calls Tryz.prog 31 #[v, .int .i64 s] w fun e w' => e = .returned (.int .i64 (numT s T)) ∧ TT w' base v (mkT s T).cs (mkT s T).ss (mkT s T).ct (mkT s T).st ∧ Spare base hi w w' := by
  obtain ⟨va, vb, vc, vd, m1, m2, m3, rfl, l1, l2, l3, o0, o1, o2, o3, r0, r1, r2⟩ := ht
  obtain ⟨q0, q1, q2, q3⟩ := hq _ _ _ _ rfl
  have L0 := hid q0
  have L1 := hid q1
  have L2 := hid q2
  have L3 := hid q3
  clear q0 q1 q2 q3 hq
  obtain ⟨cs, ss, ct, st⟩ := T
  simp only at *
  have HB := hid ((Below.refl w.heap.size w).alloc (Nat.le_refl _) (.cells #[va, vb, vc, vd] 33))
  have HF := hid (Four.new w va vb vc vd 33)
  have A0 := hid (o0.ltOf r0)
  have A1 := hid (o1.ltOf r1)
  have A2 := hid (o2.ltOf r2)
  have R0 := hid r0
  have R1 := hid r1
  have R2 := hid r2
  have O0 := hid (o0.below HB.out)
  have O1 := hid (o1.below HB.out)
  have O2 := hid (o2.below HB.out)
  have O3 := hid (o3.below HB.out)
  have hm2 : m2 ≤ w.heap.size := o2.1
  have hbw : base ≤ w.heap.size := o0.1
  obtain ⟨a0, c0, rfl⟩ := o0.shape
  obtain ⟨a1, c1, rfl⟩ := o1.shape
  obtain ⟨a2, c2, rfl⟩ := o2.shape
  obtain ⟨a3, c3, rfl⟩ := o3.shape
  clear o0 o1 o2 o3 r0 r1 r2
  have HM1 := hid (markCs base m1 (min m2 hi) s hs0 (by omega) _ _ cs ss _ h0 h1 l1 O0.out O1.out A0.out (fun g hg => by have := A0.out g hg; have := L0.out g hg; omega) (fun g hg => by have := A1.out g hg; have := L1.out g hg; omega) (Nat.le_trans (by omega) HB.out.size))
  obtain ⟨f0, f1, f2, f3⟩ := HF.out.cells
  go_enter Tryz.func31, Tryz.ntmps31
  go_wp2_with fail
  refine HM1.out.mono ?_
  generalize w.alloc _ = wa at *
  rintro e w1 ⟨rfl, p0, p1, hsp⟩
  have P0 := hid p0
  have P1 := hid p1
  have P2 := hid (hsp.own O2.out (Nat.min_le_left _ _))
  have P3 := hid (hsp.own O3.out (Nat.le_trans (Nat.min_le_left _ _) l3))
  have hF1 : Four w1 w.heap.size _ _ _ _ 33 := (hsp.2.2.2.2 _ HF.out.lt (.inr (by omega))).trans HF.out
  have HF1 := hid hF1
  have S1 := hid ((Spare.ofBelow (B := base) (m := hi) HB.out).trans (hsp.wider (Nat.le_refl _) (Nat.min_le_right _ _)))
  have hbase : m2 ≤ w1.heap.size := P2.out.1
  clear p0 p1 hsp hF1 HM1 O0 O1 O2 O3 HF HB f0 f1 f2 f3
  have HM2 := hid (markCs m2 m3 hi (s + (cs.length : Int) + (ss.length : Int)) (by omega) (by omega) _ _ ct st w1 h2 h3 l3 P2.out P3.out A2.out L2.out L3.out (Nat.le_trans hhi S1.out.2.2.2.1))
  obtain ⟨f0, f1, f2, f3⟩ := HF1.out.cells
  go_wp2_with fail
  refine HM2.out.mono ?_
  rintro e w2 ⟨rfl, p2, p3, hsp⟩
  have hb2 := hsp.below hbase
  have K0 := hid (P0.out.keepB hb2 (fun g hg => by have := A0.out g hg; omega))
  have K1 := hid (P1.out.keepB hb2 A1.out)
  have K2 := hid p2
  have K3 := hid p3
  have S2 := hid (S1.out.trans (hsp.wider (by omega) (Nat.le_refl _)))
  clear p2 p3 hsp hb2 P0 P1 P2 P3 S1
  go_wp2_with fail
  go_ret
  exact ⟨rfl, ⟨_, _, _, _, m1, m2, m3, rfl, l1, l2, l3, K0.out, K1.out, K2.out, K3.out, R0.out, R1.out, R2.out⟩, S2.out⟩

set_option maxRecDepth 20000 in
set_option maxHeartbeats 1600000 in
theorem heldTT (s : Int) (hs0 : 1 ≤ s) (hs1 : s ≤ 1000000) (v : Value) (T : Tb) (w : World) (h0 : T.cs.length ≤ 1048576) (h1 : T.ss.length ≤ 1048576) (h2 : T.ct.length ≤ 1048576) (h3 : T.st.length ≤ 1048576) (hv : TV w v (mkT s T).cs (mkT s T).ss (mkT s T).ct (mkT s T).st) :
    Calls Tryz.prog 33 #[v, .int .i64 s] w fun e w' => e = .returned (.int .i64 (numT s T)) ∧ Below w.heap.size w w' := by
  obtain ⟨cs, ss, ct, st⟩ := T
  obtain ⟨a0, c0, a1, c1, a2, c2, a3, c3, rfl, u0, u1⟩ := hv
  simp only [mkT] at u0 u1 ⊢
  simp only at h0 h1 h2 h3
  have HB := hid ((Below.refl w.heap.size w).alloc (Nat.le_refl _) (.cells #[.slice a0 (marksF s cs.length).length c0, .slice a1 (marksF (s + (cs.length : Int)) ss.length).length c1, .slice a2 (marksF (s + (cs.length : Int) + (ss.length : Int)) ct.length).length c2, .slice a3 (marksF (s + (cs.length : Int) + (ss.length : Int) + (ct.length : Int)) st.length).length c3] 33))
  have HF := hid (Four.new w (.slice a0 (marksF s cs.length).length c0) (.slice a1 (marksF (s + (cs.length : Int)) ss.length).length c1) (.slice a2 (marksF (s + (cs.length : Int) + (ss.length : Int)) ct.length).length c2) (.slice a3 (marksF (s + (cs.length : Int) + (ss.length : Int) + (ct.length : Int)) st.length).length c3) 33)
  have HM1 := hid (heldCs s hs0 (by omega) _ cs.length ss.length _ h0 h1 (u0.below HB.out))
  have U1 := hid (u1.below HB.out)
  have hp0 : ¬ (s + (cs.length : Int) + (ss.length : Int) < 0) := by omega
  have hp1 : ¬ (s + (cs.length : Int) + (ss.length : Int) + (ct.length : Int) + (st.length : Int) < 0) := by omega
  have hk1 : (1 : Int) ≤ s + (cs.length : Int) + (ss.length : Int) := by omega
  have hk2 : s + (cs.length : Int) + (ss.length : Int) ≤ 100000000 := by omega
  have HN := hid (show numT s ⟨cs, ss, ct, st⟩ = s + (cs.length : Int) + (ss.length : Int) + (ct.length : Int) + (st.length : Int) from rfl)
  clear u0 u1
  generalize hm0 : Value.slice a0 (marksF s cs.length).length c0 = y0 at *
  generalize hm1 : Value.slice a1 (marksF (s + (cs.length : Int)) ss.length).length c1 = y1 at *
  generalize hm2 : Value.slice a2 (marksF (s + (cs.length : Int) + (ss.length : Int)) ct.length).length c2 = y2 at *
  generalize hm3 : Value.slice a3 (marksF (s + (cs.length : Int) + (ss.length : Int) + (ct.length : Int)) st.length).length c3 = y3 at *
  have HX := hid hm0
  clear hm0 hm1 hm2 hm3
  obtain ⟨f0, f1, f2, f3⟩ := HF.out.cells
  go_enter Tryz.func33, Tryz.ntmps33
  go_wp2_with fail
  refine HM1.out.mono ?_
  generalize w.alloc _ = wa at *
  rintro e w1 ⟨rfl, hb1⟩
  have B1 := hid (HB.out.trans (hb1.mono HB.out.size))
  have HF1 := hid (HF.out.below hb1 HF.out.lt)
  have HM2 := hid (heldCs (s + (cs.length : Int) + (ss.length : Int)) hk1 hk2 _ ct.length st.length _ h2 h3 (U1.out.below hb1))
  clear hb1 HM1 HF HB U1 f0 f1 f2 f3
  obtain ⟨f0, f1, f2, f3⟩ := HF1.out.cells
  go_wp2_with fail
  refine HM2.out.mono ?_
  rintro e w2 ⟨rfl, hb2⟩
  have B2 := hid (B1.out.trans (hb2.mono B1.out.size))
  go_wp2_with fail
  go_ret
  exact ⟨by rw [HN.out]; rfl, B2.out⟩

/-- The picture with its marks. -/
def mkP (p : Pk) : Pk := { p with T := mkT 1 p.T, L := mkG (numT 1 p.T) p.L p.L.length }
/-- The number behind the marks of a picture. -/
def numP (p : Pk) : Int := stG (numT 1 p.T) p.L p.L.length
theorem mkT_len (s : Int) (T : Tb) : (mkT s T).cs.length = T.cs.length ∧ (mkT s T).ss.length = T.ss.length ∧ (mkT s T).ct.length = T.ct.length ∧ (mkT s T).st.length = T.st.length := by simp [mkT, marksF_length]
theorem OwnK.keepB {w w' : World} {base B : Nat} {v : Value} {S : List (Int × List Int)} {vs : List Value} (h : OwnK w base v S vs) (hb : Below B w w') (h0 : ∀ a n c, v = .slice (some a) n c → a.block < B) (h1 : ∀ j, j < S.length → ∀ a n c, vs.getD j (.bool false) = .slice (some a) n c → a.block < B) : OwnK w' base v S vs := by
  obtain ⟨hl, h2, h3, h4, h5⟩ := h
  refine ⟨Nat.le_trans hl hb.size, h2, ⟨h3.1, ?_⟩, fun j hj => (h4 j hj).keepB hb ((h4 j hj).ltOf (h1 j hj)), h5⟩
  rcases h3.2 with h | ⟨g, cap, cur, hv, hg, hh, r⟩
  · exact .inl h
  · exact .inr ⟨g, cap, cur, hv, hg, (hb.block g (h0 ⟨g, 0, none⟩ _ _ hv)).trans hh, r⟩
theorem TT.spare {w w' : World} {B m base : Nat} {v : Value} {cs ss ct st : List Int} (h : TT w base v cs ss ct st) (hs : Spare B m w w') (hm : m ≤ base) : TT w' base v cs ss ct st := by
  obtain ⟨va, vb, vc, vd, m1, m2, m3, e, l1, l2, l3, o0, o1, o2, o3, r⟩ := h
  exact ⟨va, vb, vc, vd, m1, m2, m3, e, l1, l2, l3, hs.own o0 hm, hs.own o1 (by omega), hs.own o2 (by omega), hs.own o3 (by omega), r⟩

/-- A picture in own memory, all of it below hi. -/
def POh (base hi : Nat) (w : World) (v : Value) (p : Pk) : Prop :=
  ∃ x0 x1 x2 x3 bv vs m, v = .agg #[.int .i64 p.W, .int .i64 p.H, x0, x1, x2, x3, .string p.N, bv] ∧ base ≤ m ∧ TT w m (.agg #[x0, x1, x2, x3]) p.T.cs p.T.ss p.T.ct p.T.st ∧ OwnK w base bv p.L vs ∧
    (∀ a n c, bv = .slice (some a) n c → a.block < m) ∧ (∀ j, j < p.L.length → ∀ a n c, vs.getD j (.bool false) = .slice (some a) n c → a.block < m) ∧ (Blt x0 hi ∧ Blt x1 hi ∧ Blt x2 hi ∧ Blt x3 hi) ∧ (∀ a n c, bv = .slice (some a) n c → a.block < hi) ∧ ∀ j, j < p.L.length → ∀ a n c, vs.getD j (.bool false) = .slice (some a) n c → a.block < hi
theorem POh.po {base hi : Nat} {w : World} {v : Value} {p : Pk} (h : POh base hi w v p) : PO base w v p := by
  obtain ⟨x0, x1, x2, x3, bv, vs, m, e, h1, h2, h3, h4, h5, _⟩ := h
  exact ⟨x0, x1, x2, x3, bv, vs, m, e, h1, h2, h3, h4, h5⟩
theorem PO.poh {base : Nat} {w : World} {v : Value} {p : Pk} (h : PO base w v p) : POh base w.heap.size w v p := by
  obtain ⟨x0, x1, x2, x3, bv, vs, m, e, h1, h2, h3, h4, h5⟩ := h
  have h2' := h2
  obtain ⟨va, vb, vc, vd, m1, m2, m3, e2, l1, l2, l3, o0, o1, o2, o3, _⟩ := h2'
  cases e2
  exact ⟨x0, x1, x2, x3, bv, vs, m, e, h1, h2, h3, h4, h5, ⟨fun g hg => (o0.2.lt g hg).2, fun g hg => (o1.2.lt g hg).2, fun g hg => (o2.2.lt g hg).2, fun g hg => (o3.2.lt g hg).2⟩, fun a n c e => (h3.2.2.1.lt a.block (by rw [e]; rfl)).2, fun j hj a n c e => h3.lt j hj a n c e⟩
theorem POh.below {base hi : Nat} {w w' : World} {v : Value} {p : Pk} (h : POh base hi w v p) (hb : Below w.heap.size w w') : POh base hi w' v p := by
  obtain ⟨x0, x1, x2, x3, bv, vs, m, e, h1, h2, h3, r⟩ := h
  exact ⟨x0, x1, x2, x3, bv, vs, m, e, h1, h2.below hb, h3.below hb, r⟩
theorem OwnK.spare {w w' : World} {B m base : Nat} {v : Value} {S : List (Int × List Int)} {vs : List Value} (h : OwnK w base v S vs) (hs : Spare B m w w') (hm : m ≤ base) : OwnK w' base v S vs := by
  obtain ⟨hl, h2, h3, h4, h5⟩ := h
  refine ⟨Nat.le_trans hl hs.2.2.2.1, h2, ⟨h3.1, ?_⟩, fun j hj => hs.own (h4 j hj) hm, h5⟩
  rcases h3.2 with h | ⟨g, cap, cur, hv, hg, hh, r⟩
  · exact .inl h
  · exact .inr ⟨g, cap, cur, hv, hg, (hs.2.2.2.2 g (Array.getElem?_eq_some_iff.1 hh).1 (.inr (by omega))).trans hh, r⟩
theorem POh.spare {base hi B m : Nat} {w w' : World} {v : Value} {p : Pk} (h : POh base hi w v p) (hs : Spare B m w w') (hm : m ≤ base) : POh base hi w' v p := by
  obtain ⟨x0, x1, x2, x3, bv, vs, m', e, h1, h2, h3, r⟩ := h
  exact ⟨x0, x1, x2, x3, bv, vs, m', e, h1, h2.spare hs (by omega), h3.spare hs hm, r⟩

set_option maxRecDepth 20000 in
set_option maxHeartbeats 1600000 in
/-- A picture in own memory is marked, and nothing below it. -/
theorem markPO (base hi : Nat) (v : Value) (p : Pk) (w : World) (hhi : hi ≤ w.heap.size) (h0 : p.T.cs.length ≤ 1048576) (h1 : p.T.ss.length ≤ 1048576) (h2 : p.T.ct.length ≤ 1048576) (h3 : p.T.st.length ≤ 1048576) (hS : p.L.length ≤ 1600) (hs : ∀ s ∈ p.L, s.2.length ≤ 63) (ho : POh base hi w v p) :
    Calls Tryz.prog 11 #[v, .int .i64 1] w fun e w' => e = .returned (.int .i64 (numP p)) ∧ POh base hi w' v (mkP p) ∧ Spare base hi w w' := by
  obtain ⟨x0, x1, x2, x3, bv, vs, m, rfl, hm, ht, hk, hv0, hv1, hq, hw0, hw1⟩ := ho
  have HBM := hid (show base ≤ m from hm)
  have hmw : m ≤ w.heap.size := by obtain ⟨_, _, _, _, _, _, _, _, _, _, _, o0, _⟩ := ht; exact o0.1
  have HA := hid ((Below.refl w.heap.size w).alloc (Nat.le_refl _) (.cells #[.int .i64 p.W, .int .i64 p.H, x0, x1, x2, x3, .string p.N, bv] 36))
  have HE := hid (Eig.new w (.int .i64 p.W) (.int .i64 p.H) x0 x1 x2 x3 (.string p.N) bv 36)
  have HMT := hid (markTT m 1 (by decide) (by decide) _ p.T hi _ h0 h1 h2 h3 (ht.below HA.out) (fun y0 y1 y2 y3 e => by cases e; exact hq) (Nat.le_trans hhi HA.out.size))
  have HK := hid (hk.below HA.out)
  have HV0 := hid hv0
  have HV1 := hid hv1
  have HW0 := hid hw0
  have HW1 := hid hw1
  have HQ := hid hq
  have HS := hid hs
  have HNT := hid (show (1 : Int) ≤ numT 1 p.T ∧ numT 1 p.T ≤ 100000000 by unfold numT; omega)
  clear ht hk hv0 hv1 hs hq hw0 hw1
  obtain ⟨q0, q1, q2, q3, q4, q5, q6, q7⟩ := HE.out.cells
  obtain ⟨ao, cap, rfl⟩ := HK.out.shape
  go_enter Tryz.func11, Tryz.ntmps11
  go_wp2_with fail
  refine HMT.out.mono ?_
  generalize w.alloc _ = wa at *
  rintro e w1 ⟨rfl, htt, hsp⟩
  have hwa : w.heap.size < wa.heap.size := HE.out.lt
  have hb1 : Below m wa w1 := hsp.below (by omega)
  have HK1 := hid (HK.out.keepB hb1 HV0.out HV1.out)
  have HT1 := hid htt
  have HE1 := hid (show Eig w1 w.heap.size _ _ _ _ _ _ _ _ 36 from (hsp.2.2.2.2 _ HE.out.lt (.inr hhi)).trans HE.out)
  have S1 := hid ((Spare.ofBelow (B := base) (m := hi) HA.out).trans (hsp.wider HBM.out (Nat.le_refl _)))
  have hw1 : wa.heap.size ≤ w1.heap.size := hb1.size
  clear htt hsp hb1 HMT HE HK HA q0 q1 q2 q3 q4 q5 q6 q7
  obtain ⟨q0, q1, q2, q3, q4, q5, q6, q7⟩ := HE1.out.cells
  have HMK := hid (markKG base (min m hi) (numT 1 p.T) HNT.out.1 HNT.out.2 _ p.L vs w1 hS HS.out HK1.out (fun a n c e => Nat.lt_min.2 ⟨HV0.out a n c e, HW0.out a n c e⟩) (fun j hj a n c e => Nat.lt_min.2 ⟨HV1.out j hj a n c e, HW1.out j hj a n c e⟩))
  go_wp2_with fail
  refine HMK.out.mono ?_
  rintro e w2 ⟨rfl, hk2, hsp⟩
  have HT2 := hid (HT1.out.spare hsp (Nat.min_le_left m hi))
  have HK2 := hid hk2
  have S2 := hid (S1.out.trans (hsp.wider (Nat.le_refl _) (Nat.min_le_right m hi)))
  clear hk2 hsp HMK HT1 HK1 S1
  go_wp2_with fail
  go_ret
  have hl : (mkP p).L.length = p.L.length := mkG_len _ _ _
  exact ⟨rfl, ⟨x0, x1, x2, x3, _, vs, m, rfl, HBM.out, HT2.out, HK2.out, HV0.out, fun j hj => HV1.out j (hl ▸ hj), HQ.out, HW0.out, fun j hj => HW1.out j (hl ▸ hj)⟩, S2.out⟩
theorem numP_pos (p : Pk) (hs : ∀ s ∈ p.L, s.2.length ≤ 63) : 1 ≤ numP p := by
  have HST := stG_le (numT 1 p.T) p.L (fun k hk => hs _ (nth_inK p.L k hk)) p.L.length (Nat.le_refl _)
  have : 1 ≤ numT 1 p.T := by unfold numT; omega
  unfold numP
  omega

set_option maxRecDepth 20000 in
set_option maxHeartbeats 1600000 in
/-- A marked picture holds its marks. -/
theorem heldPV (v : Value) (p : Pk) (w : World) (h0 : p.T.cs.length ≤ 1048576) (h1 : p.T.ss.length ≤ 1048576) (h2 : p.T.ct.length ≤ 1048576) (h3 : p.T.st.length ≤ 1048576) (hS : p.L.length ≤ 1600) (hs : ∀ s ∈ p.L, s.2.length ≤ 63) (hv : PV w v (mkP p)) :
    Calls Tryz.prog 12 #[v, .int .i64 1] w fun e w' => e = .returned (.int .i64 (numP p)) ∧ Below w.heap.size w w' := by
  obtain ⟨a0, c0, a1, c1, a2, c2, a3, c3, ao, cap, rfl, ht, hb⟩ := hv
  have hlen : (mkP p).L.length = p.L.length := mkG_len _ _ _
  rw [hlen]
  generalize hm0 : Value.slice a0 (mkP p).T.cs.length c0 = x0 at *
  generalize hm1 : Value.slice a1 (mkP p).T.ss.length c1 = x1 at *
  generalize hm2 : Value.slice a2 (mkP p).T.ct.length c2 = x2 at *
  generalize hm3 : Value.slice a3 (mkP p).T.st.length c3 = x3 at *
  clear hm0 hm1 hm2 hm3
  have HA := hid ((Below.refl w.heap.size w).alloc (Nat.le_refl _) (.cells #[.int .i64 (mkP p).W, .int .i64 (mkP p).H, x0, x1, x2, x3, .string (mkP p).N, .slice ao p.L.length cap] 36))
  have HE := hid (Eig.new w (.int .i64 (mkP p).W) (.int .i64 (mkP p).H) x0 x1 x2 x3 (.string (mkP p).N) (.slice ao p.L.length cap) 36)
  have HMT := hid (heldTT 1 (by decide) (by decide) _ p.T _ h0 h1 h2 h3 (TV.below ht HA.out))
  have HB := hid (hb.below HA.out)
  have HS := hid hs
  have HNT := hid (show (1 : Int) ≤ numT 1 p.T ∧ numT 1 p.T ≤ 100000000 by unfold numT; omega)
  have hp0 : ¬ (numT 1 p.T < 0) := by have := HNT.out; omega
  have HST := stG_le (numT 1 p.T) p.L (fun k hk => hs _ (nth_inK p.L k hk)) p.L.length (Nat.le_refl _)
  have hp1 : ¬ (numP p < 0) := by have := HNT.out; unfold numP; omega
  have HNP := hid (show stG (numT 1 p.T) p.L p.L.length = numP p from rfl)
  clear ht hb hs HST
  obtain ⟨q0, q1, q2, q3, q4, q5, q6, q7⟩ := HE.out.cells
  go_enter Tryz.func12, Tryz.ntmps12
  go_wp2_with fail
  refine HMT.out.mono ?_
  generalize w.alloc _ = wa at *
  rintro e w1 ⟨rfl, hb1⟩
  have HE1 := hid (HE.out.below hb1 HE.out.lt)
  have B1 := hid (HA.out.trans (hb1.mono HA.out.size))
  have HMK := hid (heldKG (numT 1 p.T) HNT.out.1 HNT.out.2 ao cap p.L w1 hS HS.out (HB.out.below hb1))
  rw [HNP.out] at HMK
  clear hb1 HMT HE HA HB HNT HNP q0 q1 q2 q3 q4 q5 q6 q7
  generalize numT 1 p.T = NT at *
  obtain ⟨NP, hNP⟩ : ∃ NP, NP = numP p := ⟨_, rfl⟩
  rw [← hNP] at HMK hp1
  have HNE := hid hNP
  clear hNP
  obtain ⟨q0, q1, q2, q3, q4, q5, q6, q7⟩ := HE1.out.cells
  go_wp2_with fail
  refine HMK.out.mono ?_
  rintro e w2 ⟨rfl, rfl⟩
  go_wp2_with fail
  go_ret
  exact ⟨by rw [← HNE.out]; rfl, B1.out⟩
end Go.Proofs.YtnnakmgngkpghaaGreat
