/- Texts joined: Rows2, Rows3, Rows4, Stp, StpI. No statement is proved here. -/
import Derived.Test.YtnnakmgngkpghaaGreatGa
import Derived.Test.YtnnakmgngkpghaaGreatGb
import Derived.Deep.WholeRow
import Derived.Deep.CutRange
import Derived.OwnWalk

/- Rows of blocks that are the call's own: contracts of their size, their copy, their comparison and their marks. -/
namespace Go.Proofs.YtnnakmgngkpghaaGreat
open Go.RowKit
set_option linter.unusedVariables false

/-- Block b holds a row of cells. -/
def Arr (w : World) (b : Nat) (cs : Array Value) (t : TypeId) : Prop := w.heap[b]? = some (.cells cs t (0, 0))
theorem Arr.cell {w : World} {b : Nat} {cs : Array Value} {t : TypeId} (h : Arr w b cs t) (j : Nat) : w.cell? ⟨b, j, none⟩ = cs[j]? := by
  unfold Arr at h
  simp [World.cell?, h]
theorem Arr.free {w : World} {b : Nat} {cs : Array Value} {t : TypeId} (h : Arr w b cs t) (j : Nat) : w.frozen? ⟨b, j, none⟩ = false := by
  unfold Arr at h
  simp [World.frozen?, h]
theorem Arr.lt {w : World} {b : Nat} {cs : Array Value} {t : TypeId} (h : Arr w b cs t) : b < w.heap.size := (Array.getElem?_eq_some_iff.1 h).1
theorem Arr.below {w w' : World} {B b : Nat} {cs : Array Value} {t : TypeId} (h : Arr w b cs t) (hb : Below B w w') (hB : b < B) : Arr w' b cs t := (hb.block b hB).trans h
theorem Arr.set {w : World} {b : Nat} {cs : Array Value} {t : TypeId} (h : Arr w b cs t) (i : Nat) (u : Value) : Arr (w.setCell ⟨b, i, none⟩ u) b (cs.setIfInBounds i u) t := heap_setCell_same w b i _ t u h
theorem Arr.other {w : World} {b c i : Nat} {cs : Array Value} {t : TypeId} (h : Arr w b cs t) (hne : b ≠ c) (u : Value) : Arr (w.setCell ⟨c, i, none⟩ u) b cs t := (Below.heap_setCell _ _ _ _ (fun e => hne (by rw [e]))).trans h

/-- What is left of a measure when the blocks from k on are taken from l; negative at once where it is not enough. -/
def sizes (L : List (Int × List Int)) : Nat → Nat
  | 0 => 0
  | k + 1 => sizes L k + (nth L k).2.length
theorem sizes_le (L : List (Int × List Int)) : ∀ n k, k < n → (nth L k).2.length ≤ sizes L n
  | n + 1, k, hk => by
    rw [sizes]
    by_cases e : k = n
    · subst e; omega
    · have := sizes_le L n k (by omega)
      omega

set_option maxRecDepth 100000 in
set_option maxHeartbeats 1600000 in
theorem szBlockS (ao : Option Addr) (cap : Nat) (L : List (Int × List Int)) (w : World) (hn : L.length ≤ 9223372036854775807) (hs : ∀ j, j < L.length → (nth L j).2.length ≤ 9223372036854775807) (hv : BRow w ao L) :
    Calls Tryz.prog 18 #[.slice ao L.length cap, .int .i64 1048576] w fun e w' => ∃ r : Int, e = .returned (.int .i64 r) ∧ (r < 0 ∨ L.length ≤ 1048576 ∧ ∀ j, j < L.length → (nth L j).2.length ≤ 1048576) ∧ Below w.heap.size w w' := by
  have HV := hid hv
  have HS := hid hs
  clear hv hs
  by_cases hl : (1048576 : Int) - L.length < 0
  · go_enter Tryz.func18, Tryz.ntmps18
    go_wp2_with fail
    go_ret
    exact ⟨_, rfl, .inl (by decide), Below.refl _ _⟩
  · have hl2 : L.length ≤ 1048576 := by omega
    go_enter Tryz.func18, Tryz.ntmps18
    go_wp2_with fail
    go_loopw [1, 5] (fun l i wr => ∃ (k : Nat) (q : Int), k ≤ L.length ∧ i = .int .i64 k ∧ l = .int .i64 q ∧ (0 ≤ q ∧ q ≤ 1048576) ∧ Hid (∀ j, j < k → (nth L j).2.length ≤ 1048576) ∧ Hid (Below w.heap.size w wr)) (fun _ i _ => L.length - (intOf i).toNat)
    case atStart => exact ⟨0, 1048576 - L.length, by omega, rfl, rfl, by omega, fun j hj => by omega, Below.refl _ _⟩
    case round =>
      obtain ⟨k, q, hk, rfl, rfl, ⟨hq0, hq1⟩, hall, hb⟩ := hrel
      by_cases hlt : k < L.length
      · obtain ⟨b, off, a, c, rfl, hc1, hc2, hvw⟩ := HV.out.below hb.out k hlt
        have hlt' : (k : Int) < (L.length : Int) := by omega
        have HSZ := hid (szBlock (nth L k).1 a (nth L k).2.length c q wr (HS.out k hlt) hq0 hq1)
        have HNX := hid (fun (h : (nth L k).2.length ≤ 1048576) j (hj : j < k + 1) => (show (nth L j).2.length ≤ 1048576 by
          by_cases e : j = k
          · rw [e]; exact h
          · exact hall.out j (by omega)))
        generalize (nth L k).1 = D at *
        generalize (nth L k).2.length = N at *
        by_cases hneg : q - (N : Int) < 0
        · have e0 : lft q N = -1 := by unfold lft; rw [if_pos hneg]
          rw [e0] at HSZ
          go_wp2_with fail
          refine HSZ.out.mono ?_
          rintro e w2 ⟨rfl, hb2⟩
          have B2 := hid (hb.out.trans (hb2.mono hb.out.size))
          go_wp2_with fail
          go_ret
          exact ⟨_, rfl, .inl (by decide), B2.out⟩
        · have e0 : lft q N = q - N := by unfold lft; rw [if_neg hneg]
          rw [e0] at HSZ
          have HNY := hid (HNX.out (by omega))
          go_wp2_with fail
          refine HSZ.out.mono ?_
          rintro e w2 ⟨rfl, hb2⟩
          have B2 := hid (hb.out.trans (hb2.mono hb.out.size))
          go_wp2_with fail
          go_roundw
          case rel => exact ⟨k + 1, q - N, by omega, by go_num, rfl, by omega, HNY.out, B2.out⟩
          case measure => simp [intOf]; omega
      · obtain rfl : k = L.length := by omega
        go_wp2_with fail
        go_ret
        exact ⟨_, rfl, .inr ⟨hl2, hall.out⟩, hb.out⟩

set_option maxRecDepth 100000 in
set_option maxHeartbeats 1600000 in
/-- Two rows of blocks that read as the same. -/
theorem eqBlockS_same (ao bo : Option Addr) (cap cap' : Nat) (L : List (Int × List Int)) (w : World) (hn : L.length ≤ 1048576) (hs : ∀ j, j < L.length → (nth L j).2.length ≤ 1048576) (ha : BRow w ao L) (hb : BRow w bo L) :
    Calls Tryz.prog 30 #[.slice ao L.length cap, .slice bo L.length cap'] w fun e w' => e = .returned (.bool true) ∧ Below w.heap.size w w' := by
  have HA := hid ha
  have HB := hid hb
  have HS := hid hs
  clear ha hb hs
  have hnn : ((L.length : Int) != (L.length : Int)) = false := by simp
  go_enter Tryz.func30, Tryz.ntmps30
  go_wp2_with fail
  go_loopw [5] (fun i wr => ∃ k : Nat, k ≤ L.length ∧ i = .int .i64 k ∧ Hid (Below w.heap.size w wr)) (fun i _ => L.length - (intOf i).toNat)
  case atStart => exact ⟨0, by omega, rfl, Below.refl _ _⟩
  case round =>
    obtain ⟨k, hk, rfl, hbr⟩ := hrel
    by_cases hlt : k < L.length
    · obtain ⟨b, off, a, c, rfl, hc1, hc2, hvw⟩ := HA.out.below hbr.out k hlt
      obtain ⟨b', off', a', c', rfl, hc1', hc2', hvw'⟩ := HB.out.below hbr.out k hlt
      have hlt' : (k : Int) < (L.length : Int) := by omega
      have HEQ := hid (fun q (hq : Below wr.heap.size wr q) => eqBlock_same (.agg #[.int .i64 (nth L k).1, .slice a (nth L k).2.length c]) (.agg #[.int .i64 (nth L k).1, .slice a' (nth L k).2.length c']) (nth L k).1 (nth L k).2 q (HS.out k hlt) ⟨a, c, rfl, hvw.below (Nat.le_refl _) hq⟩ ⟨a', c', rfl, hvw'.below (Nat.le_refl _) hq⟩)
      generalize (nth L k).1 = D at *
      generalize (nth L k).2 = XS at *
      clear hvw hvw'
      go_wp2_with fail
      go_cut [26] from 17 to 26 (fun s wx => s = .bool false ∧ Below wr.heap.size wr wx)
      case first =>
        go_region_with (go_at_call 50; refine (HEQ.out _ ?_).mono ?_; · first | exact Below.refl _ _ | exact (Below.refl _ _).drew | exact (Below.refl _ _).drew.drew
                        rintro e w2 ⟨rfl, hb2⟩
                        have hc2 : Below wr.heap.size wr w2 := by first | exact hb2 | exact Below.trans (Below.refl _ _).drew hb2 | exact Below.trans (Below.refl _ _).drew.drew hb2)
        all_goals
          go_wp2_with fail
          go_meet
          first | exact ⟨rfl, hc2⟩ | exact ⟨rfl, hc2.drew⟩
      case rest =>
        obtain ⟨rfl, hb9⟩ := hcut
        have B9 := hid (hbr.out.trans (hb9.mono hbr.out.size))
        clear hb9
        go_wp2_with fail
        go_roundw
        case rel => exact ⟨k + 1, by omega, by go_num, B9.out⟩
        case measure => simp [intOf]; omega
    · obtain rfl : k = L.length := by omega
      go_wp2_with fail
      go_ret
      exact ⟨rfl, hbr.out⟩
end Go.Proofs.YtnnakmgngkpghaaGreat

/- The contract of the copy of a row of blocks. -/
namespace Go.Proofs.YtnnakmgngkpghaaGreat
open Go.RowKit
set_option linter.unusedVariables false

theorem Tryz.info65 : (Tryz.prog.info? 65).map (fun i => (i.zero, i.size, i.bytes)) = some (some (.agg #[.int .i64 0, .slice none 0 0]), 2, 32) := by kernel_rfl

/-- The first k blocks of a row that is the call's own. -/
def BSTo (w : World) (g : Nat) (L : List (Int × List Int)) (n k : Nat) : Prop :=
  ∃ arr : Array Value, Arr w g arr 65 ∧ arr.size = n * 2 ∧ ∀ j, j < k → arr[j * 2]? = some (.int .i64 (nth L j).1) ∧ ∃ y, arr[j * 2 + 1]? = some y ∧ Own w (g + 1) 3 .i64 y (nth L j).2
theorem BSTo.below {w w' : World} {g : Nat} {L : List (Int × List Int)} {n k : Nat} (h : BSTo w g L n k) (hb : Below w.heap.size w w') : BSTo w' g L n k := by
  obtain ⟨arr, h1, h2, h3⟩ := h
  refine ⟨arr, h1.below hb h1.lt, h2, fun j hj => ?_⟩
  obtain ⟨e1, y, e2, e3⟩ := h3 j hj
  exact ⟨e1, y, e2, e3.below hb⟩
theorem BSTo.brow {w : World} {g : Nat} {L : List (Int × List Int)} {n : Nat} (h : BSTo w g L n L.length) : BRow w (some ⟨g, 0, none⟩) L := by
  obtain ⟨arr, h1, h2, h3⟩ := h
  intro j hj
  obtain ⟨e1, y, e2, e3⟩ := h3 j hj
  obtain ⟨a, c, rfl, hv⟩ := e3.view
  exact ⟨g, 0, a, c, rfl, by rw [Nat.zero_add, h1.cell, e1], by rw [Nat.zero_add, h1.cell, e2], hv⟩
/-- The next block is stored. -/
theorem BSTo.step {w : World} {g : Nat} {L : List (Int × List Int)} {n k : Nat} {y : Value} {base : Nat} (h : BSTo w g L n k) (hk : k < n) (hy : Own w base 3 .i64 y (nth L k).2) (hg : g + 1 ≤ base) :
    BSTo ((w.setCell ⟨g, k * 2, none⟩ (.int .i64 (nth L k).1)).setCell ⟨g, k * 2 + 1, none⟩ y) g L n (k + 1) := by
  obtain ⟨arr, h1, h2, h3⟩ := h
  refine ⟨_, (h1.set (k * 2) _).set (k * 2 + 1) _, by simp [h2], fun j hj => ?_⟩
  by_cases e : j = k
  · subst e
    refine ⟨?_, y, ?_, ?_⟩
    · rw [Array.getElem?_setIfInBounds_ne (by omega), Array.getElem?_setIfInBounds_self_of_lt (by omega)]
    · rw [Array.getElem?_setIfInBounds_self_of_lt (by simp; omega)]
    · exact ((hy.mono hg).setCell_below (a := ⟨g, j * 2, none⟩) (by show g < g + 1; omega) _).setCell_below (a := ⟨g, j * 2 + 1, none⟩) (by show g < g + 1; omega) _
  · obtain ⟨e1, y', e2, e3⟩ := h3 j (by omega)
    refine ⟨?_, y', ?_, ?_⟩
    · rw [Array.getElem?_setIfInBounds_ne (by omega), Array.getElem?_setIfInBounds_ne (by omega), e1]
    · rw [Array.getElem?_setIfInBounds_ne (by omega), Array.getElem?_setIfInBounds_ne (by omega), e2]
    · exact (e3.setCell_below (a := ⟨g, k * 2, none⟩) (by show g < g + 1; omega) _).setCell_below (a := ⟨g, k * 2 + 1, none⟩) (by show g < g + 1; omega) _

/-- 'make([]Block, n)'. -/
theorem wpList_mkB {P : Program} {ops : Array Oper} {rest : List Oper} {o : Oper} {a : Act} {Q : Exit → Act → World → Prop} (w : World) (hgd : o.guard = none) (l c : Operand) (t : TypeId)
    (ho : o.op = Op.makeSlice t l c) (ht : P.underlying t = some (.slice 65)) (hinfo : (P.info? 65).map (fun i => (i.zero, i.size, i.bytes)) = some (some (.agg #[.int .i64 0, .slice none 0 0]), 2, 32))
    (kl kc : IntKind) (n : Nat) (hl : a.eval l = .int kl n) (hc : a.eval c = .int kc n) (hn : n ≤ 1000000000) (L : List (Int × List Int))
    (h : ∀ w', BSTo w' w.heap.size L n 0 → Below w.heap.size w w' → wpList P ops Q rest (a.put o.dst (.slice (some ⟨w.heap.size, 0, none⟩) n n)) w') : wpList P ops Q (o :: rest) a w := by
  obtain ⟨i, hi, hz0, hz1, hz2⟩ := info_parts hinfo
  have hmul : i.bytes * n = 32 * n := by rw [hz2]
  refine wpList_make_full w hgd l c t ho w.heap.size 65 i (.agg #[.int .i64 0, .slice none 0 0]) 2 ht hi hz0 hz1 kl kc n n n hl hc rfl rfl (by omega) (by unfold maxLen; omega) (Nat.le_refl _) ?_
  intro w' hown hgrow
  refine h w' ?_ ((Below.refl w.heap.size w).grown hgrow (Nat.le_refl _) (fun _ hg => by cases hg))
  rcases hown.2 with ⟨hv, _⟩ | ⟨g, cap, cur, hv, hg, hh, hle, hcm, hsz, _⟩
  · cases hv
  · cases hv
    exact ⟨cur, hh, hsz, fun j hj => by omega⟩

set_option maxRecDepth 100000 in
set_option maxHeartbeats 1600000 in
theorem toBlockS (ao : Option Addr) (cap : Nat) (L : List (Int × List Int)) (w : World) (hn : L.length ≤ 1048576) (hs : ∀ j, j < L.length → (nth L j).2.length ≤ 1048576) (hv : BRow w ao L) :
    Calls Tryz.prog 23 #[.slice ao L.length cap] w fun e w' => e = .returned (.slice (some ⟨w.heap.size, 0, none⟩) L.length L.length) ∧ BSTo w' w.heap.size L L.length L.length ∧ Below w.heap.size w w' := by
  have HV := hid hv
  have HS := hid hs
  clear hv hs
  go_enter Tryz.func23, Tryz.ntmps23
  go_wp2_with (at_make; refine wpList_mkB w rfl _ _ 34 rfl Tryz.underlying34 Tryz.info65 _ _ L.length rfl rfl (by omega) L ?_)
  intro w1 hb1 hbel1
  go_wp2_with fail
  go_loopw [4] (fun i wr => ∃ k : Nat, k ≤ L.length ∧ i = .int .i64 k ∧ Hid (BSTo wr w.heap.size L L.length k) ∧ Hid (Below w.heap.size w wr)) (fun i _ => L.length - (intOf i).toNat)
  case atStart => exact ⟨0, by omega, rfl, hb1, hbel1⟩
  case round =>
    obtain ⟨k, hk, rfl, hbs, hbr⟩ := hrel
    by_cases hlt : k < L.length
    · obtain ⟨b, off, a, c, rfl, hc1, hc2, hvw⟩ := HV.out.below hbr.out k hlt
      have hlt' : (k : Int) < (L.length : Int) := by omega
      have HTB := hid (toBlock (.agg #[.int .i64 (nth L k).1, .slice a (nth L k).2.length c]) (nth L k).1 (nth L k).2 wr (HS.out k hlt) ⟨a, c, rfl, hvw⟩)
      have hglt : w.heap.size < wr.heap.size := by obtain ⟨arr, h1, _⟩ := hbs.out; exact h1.lt
      have HSTEP := hid (fun q (hq : BSTo q w.heap.size L L.length k) y (hy : Own q wr.heap.size 3 .i64 y (nth L k).2) => hq.step hlt hy (by omega))
      generalize (nth L k).1 = D at *
      generalize (nth L k).2 = XS at *
      clear hvw
      go_wp2_with fail
      refine HTB.out.mono ?_
      rintro e w2 ⟨v2, rfl, ⟨va, rfl, ho2⟩, hb2⟩
      obtain ⟨yo, yc, rfl⟩ := ho2.shape
      have HBS2 := hid (hbs.out.below hb2)
      have B2 := hid (hbr.out.trans (hb2.mono hbr.out.size))
      have HO2 := hid ho2
      clear ho2 hb2 hc1 hc2 HTB
      obtain ⟨arr, har, hasz, _⟩ := HBS2.out
      have hA := hid har
      have hl0 : k * 2 < arr.size := by omega
      have hl1 : k * 2 + 1 < arr.size := by omega
      have p0 : w2.cell? ⟨w.heap.size, k * 2, none⟩ = some arr[k * 2] := by rw [har.cell]; exact Array.getElem?_eq_getElem hl0
      have p1 : w2.cell? ⟨w.heap.size, k * 2 + 1, none⟩ = some arr[k * 2 + 1] := by rw [har.cell]; exact Array.getElem?_eq_getElem hl1
      have p2 := har.free (k * 2)
      have p3 := har.free (k * 2 + 1)
      generalize arr[k * 2] = Z0 at *
      generalize arr[k * 2 + 1] = Z1 at *
      clear har hasz hl0 hl1
      go_wp2_with fail
      go_roundw
      case rel => exact ⟨k + 1, by omega, by go_num, HSTEP.out w2 HBS2.out _ HO2.out, (B2.out.setCell (p := ⟨w.heap.size, k * 2, none⟩) (Nat.le_refl _) _).setCell (p := ⟨w.heap.size, k * 2 + 1, none⟩) (Nat.le_refl _) _⟩
      case measure => simp [intOf]; omega
    · obtain rfl : k = L.length := by omega
      go_wp2_with fail
      go_ret
      exact ⟨rfl, hbs.out, hbr.out⟩
end Go.Proofs.YtnnakmgngkpghaaGreat

/- Contracts of the marks of ints and of rows of blocks: what they write into, and what they leave alone. -/
namespace Go.Proofs.YtnnakmgngkpghaaGreat
open Go.RowKit
set_option linter.unusedVariables false

/-- Of what was there, only blocks from B on and below m have turned. -/
def Spare (B m : Nat) (w w' : World) : Prop := w'.os = w.os ∧ w'.tape = w.tape ∧ w'.output = w.output ∧ w.heap.size ≤ w'.heap.size ∧ ∀ g, g < w.heap.size → g < B ∨ m ≤ g → w'.heap[g]? = w.heap[g]?
theorem Spare.refl (B m : Nat) (w : World) : Spare B m w w := ⟨rfl, rfl, rfl, Nat.le_refl _, fun _ _ _ => rfl⟩
theorem Spare.trans {B m : Nat} {a b c : World} (h : Spare B m a b) (k : Spare B m b c) : Spare B m a c :=
  ⟨k.1.trans h.1, k.2.1.trans h.2.1, k.2.2.1.trans h.2.2.1, Nat.le_trans h.2.2.2.1 k.2.2.2.1, fun g hg hc => (k.2.2.2.2 g (Nat.lt_of_lt_of_le hg h.2.2.2.1) hc).trans (h.2.2.2.2 g hg hc)⟩
theorem Spare.ofBelow {B m : Nat} {a b : World} (h : Below a.heap.size a b) : Spare B m a b := ⟨h.os, h.tape, h.output, h.size, fun g hg _ => h.block g hg⟩
theorem Spare.ofOnly {B m g : Nat} {a b : World} (h : Only g a b) (h0 : B ≤ g) (h1 : g < m) : Spare B m a b := ⟨h.1, h.2.1, h.2.2.1, by rw [h.2.2.2.1]; exact Nat.le_refl _, fun k _ hk => h.2.2.2.2 k (by omega)⟩
theorem Spare.below {B m : Nat} {a b : World} (h : Spare B m a b) (hB : B ≤ a.heap.size) : Below B a b := ⟨h.1, h.2.1, h.2.2.1, h.2.2.2.1, fun k hk => h.2.2.2.2 k (Nat.lt_of_lt_of_le hk hB) (.inl hk)⟩
theorem Spare.own {B m base : Nat} {a b : World} {e : TypeId} {k : IntKind} {v : Value} {xs : List Int} (h : Spare B m a b) (ho : Own a base e k v xs) (hb : m ≤ base) : Own b base e k v xs := by
  refine ⟨Nat.le_trans ho.1 h.2.2.2.1, ho.2.1, ?_⟩
  rcases ho.2.2 with h0 | ⟨g, cap, cur, hv, hg, hh, r⟩
  · exact .inl h0
  · exact .inr ⟨g, cap, cur, hv, hg, (h.2.2.2.2 g (Array.getElem?_eq_some_iff.1 hh).1 (.inr (by omega))).trans hh, r⟩
theorem Spare.two {B m b : Nat} {w w' : World} {x y : Value} {t : TypeId} (h : Spare B m w w') (ht : Two w b x y t) (hb : b < B ∨ m ≤ b) : Two w' b x y t := (h.2.2.2.2 b ht.lt hb).trans ht


/-- Only blocks from B on and below m have turned; rows of ints are rows of ints as before, and all else is as it was. -/
def Soft (B m : Nat) (w w' : World) : Prop := Spare B m w w' ∧ (∀ (b : Nat) (cur : Array Value), Arr w b cur 3 → ∃ cur', Arr w' b cur' 3 ∧ ∀ (j : Nat) (x : Int), cur[j]? = some (.int .i64 x) → ∃ x' : Int, cur'[j]? = some (.int .i64 x')) ∧
  ∀ (b : Nat) (cur : Array Value) (t : TypeId), t ≠ 3 → Arr w b cur t → Arr w' b cur t
theorem Soft.refl (B m : Nat) (w : World) : Soft B m w w := ⟨Spare.refl _ _ _, fun b cur h => ⟨cur, h, fun j x hx => ⟨x, hx⟩⟩, fun _ _ _ _ h => h⟩
theorem Soft.trans {B m : Nat} {a b c : World} (h : Soft B m a b) (k : Soft B m b c) : Soft B m a c := by
  refine ⟨h.1.trans k.1, fun g cur hg => ?_, fun g cur t ht hg => k.2.2 g cur t ht (h.2.2 g cur t ht hg)⟩
  obtain ⟨c1, h1, h2⟩ := h.2.1 g cur hg
  obtain ⟨c2, k1, k2⟩ := k.2.1 g c1 h1
  refine ⟨c2, k1, fun j x hx => ?_⟩
  obtain ⟨x1, hx1⟩ := h2 j x hx
  exact k2 j x1 hx1
theorem Soft.set {B m b k : Nat} {w : World} {cur : Array Value} (h : Arr w b cur 3) (hB : B ≤ b) (hm : b < m) (y v : Int) (hy : cur[k]? = some (.int .i64 y)) : Soft B m w (w.setCell ⟨b, k, none⟩ (.int .i64 v)) := by
  have hk : k < cur.size := (Array.getElem?_eq_some_iff.1 hy).1
  refine ⟨Spare.ofOnly ((Only.refl b w).setCell k _) hB hm, fun g c hg => ?_, fun g c t ht hg => ?_⟩
  · by_cases e : g = b
    · subst e
      have : c = cur := by
        unfold Arr at h hg
        rw [h] at hg
        cases hg
        rfl
      subst this
      refine ⟨_, h.set k _, fun j x hx => ?_⟩
      by_cases ej : j = k
      · subst ej
        exact ⟨v, by rw [Array.getElem?_setIfInBounds_self_of_lt hk]⟩
      · exact ⟨x, by rw [Array.getElem?_setIfInBounds_ne (fun e => ej e.symm)]; exact hx⟩
    · exact ⟨c, hg.other e _, fun j x hx => ⟨x, hx⟩⟩
  · have e : g ≠ b := fun e => by
      subst e
      unfold Arr at h hg
      rw [h] at hg
      cases hg
      exact ht rfl
    exact hg.other e _

/-- A slice of ints in memory between B and m, whatever the ints are. -/
def IntB (B m : Nat) (w : World) (y : Value) (n : Nat) : Prop :=
  (y = .slice none 0 0 ∧ n = 0) ∨ ∃ b cap cur, y = .slice (some ⟨b, 0, none⟩) n cap ∧ B ≤ b ∧ b < m ∧ Arr w b cur 3 ∧ ∀ j, j < n → ∃ x : Int, cur[j]? = some (.int .i64 x)
theorem IntB.soft {B m : Nat} {w w' : World} {y : Value} {n : Nat} (h : IntB B m w y n) (hs : Soft B m w w') : IntB B m w' y n := by
  rcases h with h | ⟨b, cap, cur, h1, h2, h3, h4, h5⟩
  · exact .inl h
  · obtain ⟨c1, k1, k2⟩ := hs.2.1 b cur h4
    refine .inr ⟨b, cap, c1, h1, h2, h3, k1, fun j hj => ?_⟩
    obtain ⟨x, hx⟩ := h5 j hj
    exact k2 j x hx
theorem IntB.shape {B m : Nat} {w : World} {y : Value} {n : Nat} (h : IntB B m w y n) : ∃ ao c, y = .slice ao n c := by
  rcases h with ⟨h1, h2⟩ | ⟨b, cap, cur, h1, _⟩
  · exact ⟨none, 0, by rw [h1, h2]⟩
  · exact ⟨_, _, h1⟩
theorem Own.intB {B m : Nat} {w : World} {base : Nat} {y : Value} {xs : List Int} (h : Own w base 3 .i64 y xs) (hB : B ≤ base) (hm : ∀ a n c, y = .slice (some a) n c → a.block < m) : IntB B m w y xs.length := by
  rcases h.2.2 with ⟨h1, h2⟩ | ⟨g, cap, cur, hv, hg, hh, hle, _, hsz, htake⟩
  · exact .inl ⟨h1, h2⟩
  · subst hv
    refine .inr ⟨g, cap, cur, rfl, by omega, hm _ _ _ rfl, hh, fun j hj => ?_⟩
    have hc := h.cell rfl j hj
    rw [Addr.add_lit, Nat.zero_add] at hc
    have ha : Arr w g cur 3 := hh
    exact ⟨_, (ha.cell j).symm.trans hc⟩

set_option maxHeartbeats 800000 in
theorem mark_ints (B m : Nat) (v : Value) (n : Nat) (s : Int) (w : World) (hn : n ≤ 1048576) (h0 : 0 ≤ s) (h1 : s ≤ 4000000000000000000) (ho : IntB B m w v n) :
    Calls Tryz.prog 52 #[v, .int .i64 s] w fun e w' => e = .returned (.int .i64 (s + n)) ∧ Soft B m w w' := by
  rcases ho with ⟨rfl, rfl⟩ | ⟨b, cap, cur, rfl, hB, hm, harr, hall⟩
  · go_enter Tryz.func52, Tryz.ntmps52
    go_wp2
    go_loop [1, 5] (fun m i => m = .int .i64 s ∧ i = .int .i64 0) (fun _ _ => 0)
    case atStart => exact ⟨rfl, rfl⟩
    case round =>
      obtain ⟨rfl, rfl⟩ := hrel
      go_wp2
      go_ret
      exact ⟨ret_int (by simp), Soft.refl _ _ _⟩
  · have HA := hid harr
    have HALL := hid hall
    clear harr hall
    go_enter Tryz.func52, Tryz.ntmps52
    go_wp2
    go_loopw [1, 5] (fun m2 i wr => ∃ (k : Nat) (c : Array Value), k ≤ n ∧ i = .int .i64 k ∧ m2 = .int .i64 (s + (k : Int)) ∧ Hid (Arr wr b c 3) ∧ Hid (∀ j, j < n → ∃ x : Int, c[j]? = some (.int .i64 x)) ∧ Hid (Soft B m w wr)) (fun _ i _ => n - (intOf i).toNat)
    case atStart => exact ⟨0, cur, by omega, rfl, by simp, HA.out, HALL.out, Soft.refl _ _ _⟩
    case round =>
      obtain ⟨k, c, hk, rfl, rfl, har, hints, hsoft⟩ := hrel
      by_cases hlt : k < n
      · obtain ⟨y, hy⟩ := hints.out k hlt
        have hlt' : (k : Int) < (n : Int) := by omega
        have hold : wr.cell? ⟨b, k, none⟩ = some (.int .i64 y) := (har.out.cell k).trans hy
        have hfree := har.out.free k
        have HSET := hid (Soft.set har.out hB hm y (s + (k : Int)) hy)
        have HARR := hid (har.out.set k (.int .i64 (s + (k : Int))))
        have HNEW : Hid (∀ j, j < n → ∃ x : Int, (c.setIfInBounds k (.int .i64 (s + (k : Int))))[j]? = some (.int .i64 x)) := hid (fun j hj => by
          by_cases e : j = k
          · subst e
            exact ⟨_, by rw [Array.getElem?_setIfInBounds_self_of_lt (Array.getElem?_eq_some_iff.1 hy).1]⟩
          · obtain ⟨x, hx⟩ := hints.out j hj
            exact ⟨x, by rw [Array.getElem?_setIfInBounds_ne (fun e' => e e'.symm)]; exact hx⟩)
        clear hy
        go_wp2
        go_roundw
        case rel => exact ⟨k + 1, _, by omega, by go_num, by go_num, HARR.out, HNEW.out, hsoft.out.trans HSET.out⟩
        case measure => simp [intOf]; omega
      · obtain rfl : k = n := by omega
        go_wp2
        go_ret
        exact ⟨rfl, hsoft.out⟩

/-- A row of blocks whose numbers may be whatever. -/
def RowM (B m : Nat) (w : World) (g n : Nat) (ys : Nat → Value) (ns : Nat → Nat) : Prop :=
  ∃ arr, Arr w g arr 65 ∧ ∀ j, j < n → (∃ d : Int, arr[j * 2]? = some (.int .i64 d)) ∧ arr[j * 2 + 1]? = some (ys j) ∧ IntB B m w (ys j) (ns j)
theorem RowM.soft {B m : Nat} {w w' : World} {g n : Nat} {ys : Nat → Value} {ns : Nat → Nat} (h : RowM B m w g n ys ns) (hs : Soft B m w w') : RowM B m w' g n ys ns := by
  obtain ⟨arr, h1, h2⟩ := h
  refine ⟨arr, hs.2.2 g arr 65 (by decide) h1, fun j hj => ?_⟩
  obtain ⟨k1, k2, k3⟩ := h2 j hj
  exact ⟨k1, k2, k3.soft hs⟩
theorem RowM.set {B m : Nat} {w : World} {g n k : Nat} {ys : Nat → Value} {ns : Nat → Nat} (h : RowM B m w g n ys ns) (hk : k < n) (x : Int) : RowM B m (w.setCell ⟨g, k * 2, none⟩ (.int .i64 x)) g n ys ns := by
  obtain ⟨arr, h1, h2⟩ := h
  refine ⟨_, h1.set (k * 2) _, fun j hj => ?_⟩
  obtain ⟨⟨d, k1⟩, k2, k3⟩ := h2 j hj
  refine ⟨?_, ?_, ?_⟩
  · by_cases e : j = k
    · subst e
      exact ⟨x, by rw [Array.getElem?_setIfInBounds_self_of_lt (Array.getElem?_eq_some_iff.1 k1).1]⟩
    · exact ⟨d, by rw [Array.getElem?_setIfInBounds_ne (by omega)]; exact k1⟩
  · rw [Array.getElem?_setIfInBounds_ne (by omega)]
    exact k2
  · rcases k3 with k3 | ⟨b, cap, cur, q1, q2, q3, q4, q5⟩
    · exact .inl k3
    · have e : b ≠ g := fun e => by
        subst e
        unfold Arr at h1 q4
        rw [h1] at q4
        cases q4
      exact .inr ⟨b, cap, cur, q1, q2, q3, q4.other e _, q5⟩

end Go.Proofs.YtnnakmgngkpghaaGreat

/- Plain facts on the steps of a block, and slices of steps that are the call's own. -/
namespace Go.Proofs.YtnnakmgngkpghaaGreat
open Go.RowKit
set_option linter.unusedVariables false

/-- The j-th of some steps. -/
def nthS (S : List (Int × Int × List Int)) (j : Nat) : Int × Int × List Int := S.getD j (0, 0, [])
theorem nthS_left (L : List (Int × Int × List Int)) (x : Int × Int × List Int) (j : Nat) (h : j < L.length) : nthS (L ++ [x]) j = nthS L j := by
  simp only [nthS, List.getD]
  rw [List.getElem?_append_left h]
theorem nthS_last (L : List (Int × Int × List Int)) (x : Int × Int × List Int) : nthS (L ++ [x]) L.length = x := by simp [nthS]
/-- A step that tells 16 zeros. -/
def skip : Int × Int × List Int := (15, 0, [])
/-- The steps of the first k numbers, and how many zeros are still to be told. -/
def stepTo (xs : List Int) : Nat → List (Int × Int × List Int) × Nat
  | 0 => ([], 0)
  | k + 1 => if xs.getD k 0 = 0 then ((stepTo xs k).1, (stepTo xs k).2 + 1)
    else ((stepTo xs k).1 ++ List.replicate ((stepTo xs k).2 / 16) skip ++ [((((stepTo xs k).2 % 16 : Nat) : Int), sz (xs.getD k 0), restL (xs.getD k 0))], 0)
theorem stepTo_zero (xs : List Int) (k : Nat) (h : xs.getD k 0 = 0) : stepTo xs (k + 1) = ((stepTo xs k).1, (stepTo xs k).2 + 1) := by rw [stepTo, if_pos h]
theorem stepTo_num (xs : List Int) (k : Nat) (h : xs.getD k 0 ≠ 0) : stepTo xs (k + 1) = ((stepTo xs k).1 ++ List.replicate ((stepTo xs k).2 / 16) skip ++ [((((stepTo xs k).2 % 16 : Nat) : Int), sz (xs.getD k 0), restL (xs.getD k 0))], 0) := by rw [stepTo, if_neg h]
theorem stepTo_len (xs : List Int) : ∀ k, (stepTo xs k).1.length + (stepTo xs k).2 ≤ k
  | 0 => by simp [stepTo]
  | k + 1 => by
    have ih := stepTo_len xs k
    by_cases h : xs.getD k 0 = 0
    · rw [stepTo_zero xs k h]
      show (stepTo xs k).1.length + ((stepTo xs k).2 + 1) ≤ k + 1
      omega
    · rw [stepTo_num xs k h]
      simp only [List.length_append, List.length_replicate, List.length_singleton]
      omega
/-- The steps of a block. -/
def stepsOf (xs : List Int) : List (Int × Int × List Int) := if 0 < (stepTo xs 63).2 then (stepTo xs 63).1 ++ [(0, 0, [])] else (stepTo xs 63).1
def stepsR (d : Int) (xs : List Int) : List (Int × Int × List Int) := if blkOk d xs = true then stepsOf xs else []

/-- The cells of the first k steps. -/
def flS (S : List (Int × Int × List Int)) (vs : List Value) : Nat → List Value
  | 0 => []
  | k + 1 => flS S vs k ++ [.int .i64 (nthS S k).1, .int .i64 (nthS S k).2.1, vs.getD k (.bool false)]
theorem flS_len (S : List (Int × Int × List Int)) (vs : List Value) : ∀ k, (flS S vs k).length = k * 3
  | 0 => rfl
  | k + 1 => by rw [flS, List.length_append, flS_len S vs k]; simp; omega
theorem flS_at (S : List (Int × Int × List Int)) (vs : List Value) : ∀ n j, j < n → (flS S vs n)[j * 3]? = some (.int .i64 (nthS S j).1) ∧ (flS S vs n)[j * 3 + 1]? = some (.int .i64 (nthS S j).2.1) ∧ (flS S vs n)[j * 3 + 2]? = some (vs.getD j (.bool false))
  | n + 1, j, hj => by
    have hl := flS_len S vs n
    rw [flS]
    by_cases e : j = n
    · subst e
      rw [List.getElem?_append_right (by omega), List.getElem?_append_right (by omega), List.getElem?_append_right (by omega), hl]
      simp [show j * 3 + 1 - j * 3 = 1 by omega, show j * 3 + 2 - j * 3 = 2 by omega]
    · rw [List.getElem?_append_left (by omega), List.getElem?_append_left (by omega), List.getElem?_append_left (by omega)]
      exact flS_at S vs n j (by omega)
theorem flS_snoc (S : List (Int × Int × List Int)) (vs : List Value) (x : Int × Int × List Int) (y : Value) (hl : vs.length = S.length) : ∀ k, k ≤ S.length → flS (S ++ [x]) (vs ++ [y]) k = flS S vs k
  | 0, _ => rfl
  | k + 1, h => by
    rw [flS, flS, flS_snoc S vs x y hl k (by omega), nthS_left S x k (by omega)]
    have : (vs ++ [y]).getD k (.bool false) = vs.getD k (.bool false) := by
      simp only [List.getD]
      rw [List.getElem?_append_left (by omega)]
    rw [this]
theorem flS_full (S : List (Int × Int × List Int)) (vs : List Value) (x : Int × Int × List Int) (y : Value) (hl : vs.length = S.length) : flS (S ++ [x]) (vs ++ [y]) (S.length + 1) = flS S vs S.length ++ [.int .i64 x.1, .int .i64 x.2.1, y] := by
  rw [flS, flS_snoc S vs x y hl _ (Nat.le_refl _), nthS_last]
  have : (vs ++ [y]).getD S.length (.bool false) = y := by simp [← hl]
  rw [this]

/-- The slice v is the call's own and holds the steps S, their bits being the slices vs, one behind the other in memory. -/
def OwnT (w : World) (base : Nat) (v : Value) (S : List (Int × Int × List Int)) (vs : List Value) : Prop :=
  base ≤ w.heap.size ∧ vs.length = S.length ∧ w.ownsRow base 104 3 v S.length (flS S vs S.length) ∧ (∀ j, j < S.length → Own w base 3 .i64 (vs.getD j (.bool false)) (nthS S j).2.2) ∧
  ∀ i j, i < j → j < S.length → ∀ (a a' : Addr) (n n' c c' : Nat), vs.getD i (.bool false) = .slice (some a) n c → vs.getD j (.bool false) = .slice (some a') n' c' → a.block < a'.block
theorem OwnT.shape {w : World} {base : Nat} {v : Value} {S : List (Int × Int × List Int)} {vs : List Value} (h : OwnT w base v S vs) : ∃ ao cap, v = .slice ao S.length cap := by
  rcases h.2.2.1.2 with ⟨rfl, h0⟩ | ⟨g, cap, cur, rfl, _⟩
  · exact ⟨none, 0, by rw [h0]⟩
  · exact ⟨_, _, rfl⟩
theorem OwnT.empty (w : World) (base : Nat) (hb : base ≤ w.heap.size) : OwnT (w.alloc (.cells #[] 104)) base (.slice (some ⟨w.heap.size, 0, none⟩) 0 0) [] [] :=
  ⟨Nat.le_trans hb (by simp), rfl, World.ownsRow_made w #[] 0 hb (by simp [maxLen]) rfl, fun j hj => by simp at hj, fun i j _ hj => by simp at hj⟩
theorem OwnT.below {w w' : World} {base : Nat} {v : Value} {S : List (Int × Int × List Int)} {vs : List Value} (h : OwnT w base v S vs) (hb : Below w.heap.size w w') : OwnT w' base v S vs := by
  obtain ⟨h1, h2, h3, h4, h5⟩ := h
  refine ⟨Nat.le_trans h1 hb.size, h2, ⟨h3.1, ?_⟩, fun j hj => (h4 j hj).below hb, h5⟩
  rcases h3.2 with h0 | ⟨g, cap, cur, hv, hg, hh, r⟩
  · exact .inl h0
  · exact .inr ⟨g, cap, cur, hv, hg, (hb.block g (Array.getElem?_eq_some_iff.1 hh).1).trans hh, r⟩
theorem OwnT.lt {w : World} {base : Nat} {v : Value} {S : List (Int × Int × List Int)} {vs : List Value} (h : OwnT w base v S vs) (j : Nat) (hj : j < S.length) (a : Addr) (n c : Nat) (e : vs.getD j (.bool false) = .slice (some a) n c) : a.block < w.heap.size := by
  have := h.2.2.2.1 j hj
  rw [e] at this
  exact this.ge.2

/-- A row of steps that is read: three cells a step. -/
def SRow (w : World) (ao : Option Addr) (S : List (Int × Int × List Int)) : Prop :=
  ∀ j, j < S.length → ∃ b off a c, ao = some ⟨b, off, none⟩ ∧ w.cell? ⟨b, off + j * 3, none⟩ = some (.int .i64 (nthS S j).1) ∧ w.cell? ⟨b, off + j * 3 + 1, none⟩ = some (.int .i64 (nthS S j).2.1) ∧ w.cell? ⟨b, off + j * 3 + 2, none⟩ = some (.slice a (nthS S j).2.2.length c) ∧ View .i64 w a (nthS S j).2.2.length (nthS S j).2.2
theorem SRow.below {w w' : World} {ao : Option Addr} {S : List (Int × Int × List Int)} (h : SRow w ao S) (hb : Below w.heap.size w w') : SRow w' ao S := by
  intro j hj
  obtain ⟨b, off, a, c, h1, h2, h3, h4, h5⟩ := h j hj
  exact ⟨b, off, a, c, h1, (hb.cell (p := ⟨b, off + j * 3, none⟩) (World.block_lt_of_cell? w _ h2)).trans h2, (hb.cell (p := ⟨b, off + j * 3 + 1, none⟩) (World.block_lt_of_cell? w _ h3)).trans h3, (hb.cell (p := ⟨b, off + j * 3 + 2, none⟩) (World.block_lt_of_cell? w _ h4)).trans h4, h5.below (Nat.le_refl _) hb⟩
theorem OwnT.srow {w : World} {base : Nat} {ao : Option Addr} {n c : Nat} {S : List (Int × Int × List Int)} {vs : List Value} (h : OwnT w base (.slice ao n c) S vs) : SRow w ao S := by
  obtain ⟨_, hl, h2, h3, _⟩ := h
  intro j hj
  obtain ⟨a, c', hy, hv⟩ := (h3 j hj).view
  rcases h2.2 with ⟨_, h0⟩ | ⟨g, cap, cur, hv', _⟩
  · omega
  · cases hv'
    have hc := flS_at S vs S.length j hj
    have c0 := h2.cells (g := g) (by simp [Value.ownBlock]) (j * 3) _ hc.1
    have c1 := h2.cells (g := g) (by simp [Value.ownBlock]) (j * 3 + 1) _ hc.2.1
    have c2 := h2.cells (g := g) (by simp [Value.ownBlock]) (j * 3 + 2) _ hc.2.2
    rw [Addr.add_lit, Nat.zero_add] at c0 c1 c2
    exact ⟨g, 0, a, c', rfl, by rw [Nat.zero_add]; exact c0, by rw [Nat.zero_add]; exact c1, by rw [Nat.zero_add, c2, hy], hv⟩

/-- What an append of one step leaves as it was, and what it makes. -/
theorem OwnT.pushed {w w' : World} {base : Nat} {v v' : Value} {S : List (Int × Int × List Int)} {vs : List Value} {x : Int × Int × List Int} {y : Value} {o : Obj} (h : OwnT w base v S vs) (hy : Own w base 3 .i64 y x.2.2)
    (hyb : ∀ j, j < S.length → ∀ (a a' : Addr) (n n' c c' : Nat), vs.getD j (.bool false) = .slice (some a) n c → y = .slice (some a') n' c' → a.block < a'.block)
    (hown' : w'.ownsRow base 104 3 v' (S.length + 1) (flS S vs S.length ++ [.int .i64 x.1, .int .i64 x.2.1, y])) (hgrow : (w.alloc o).grownBy w' v.ownBlock) : OwnT w' base v' (S ++ [x]) (vs ++ [y]) := by
  obtain ⟨hb, hvl, hrow, hels, hdis⟩ := h
  have hsz : w.heap.size ≤ w'.heap.size := Nat.le_trans (by simp) hgrow.size
  have hkeep : ∀ (g : Nat) (cur : Array Value), w.heap[g]? = some (.cells cur 3 (0, 0)) → w'.heap[g]? = some (.cells cur 3 (0, 0)) := by
    intro g cur hg
    have hglt : g < w.heap.size := (Array.getElem?_eq_some_iff.1 hg).1
    have h1 : (w.alloc o).heap[g]? = some (.cells cur 3 (0, 0)) := (((Below.refl w.heap.size w).alloc (Nat.le_refl _) _).block g hglt).trans hg
    refine (hgrow.block g (Nat.lt_trans hglt (by simp)) ?_).trans h1
    intro eq
    rcases hrow.2 with ⟨hv, _⟩ | ⟨g', cap, cur', hv, hg', hh, _⟩
    · subst hv; cases eq
    · subst hv
      have : g = g' := by simpa [Value.ownBlock] using eq
      subst this
      rw [hg] at hh
      cases hh
  have hkeepO : ∀ (y : Value) (ys : List Int), Own w base 3 .i64 y ys → Own w' base 3 .i64 y ys := by
    intro y ys hyo
    refine ⟨Nat.le_trans hyo.1 hsz, hyo.2.1, ?_⟩
    rcases hyo.2.2 with h0 | ⟨g, cap, cur, hv, hg, hh, r⟩
    · exact .inl h0
    · exact .inr ⟨g, cap, cur, hv, hg, hkeep g cur hh, r⟩
  have hleft : ∀ j, j < S.length → (vs ++ [y]).getD j (.bool false) = vs.getD j (.bool false) := fun j hj => by
    simp only [List.getD]
    rw [List.getElem?_append_left (by omega)]
  have hlast : (vs ++ [y]).getD S.length (.bool false) = y := by simp [← hvl]
  refine ⟨Nat.le_trans hb hsz, by simp [hvl], ?_, fun j hj => ?_, fun i j hij hj a a' n n' c c' e1 e2 => ?_⟩
  · rw [List.length_append, List.length_singleton, flS_full S vs x _ hvl]
    exact hown'
  · by_cases e : j < S.length
    · rw [nthS_left S _ j e, hleft j e]
      exact hkeepO _ _ (hels j e)
    · have ej : j = S.length := by simp at hj; omega
      subst ej
      rw [nthS_last, hlast]
      exact hkeepO _ _ hy
  · simp at hj
    by_cases e : j < S.length
    · rw [hleft j e] at e2
      rw [hleft i (by omega)] at e1
      exact hdis i j hij e a a' n n' c c' e1 e2
    · have ej : j = S.length := by omega
      subst ej
      rw [hlast] at e2
      rw [hleft i hij] at e1
      exact hyb i hij a a' n n' c c' e1 e2

/-- 'out = append(out, s)', s a step laid in a new block of its own first. -/
theorem wpList_pushS {P : Program} {ops : Array Oper} {rest : List Oper} {o : Oper} {a : Act} {Q : Exit → Act → World → Prop} (w : World) (gb : Nat) (hgb : w.heap.size = gb) (hgd : o.guard = none) (s x : Operand) (t : TypeId)
    (ho : o.op = .call { callee := .builtin .append, args := #[s, x], argTypes := #[t, t] })
    (base : Nat) (ht : P.underlying t = some (.slice 104)) (hinfo : (P.info? 104).map (fun i => (i.zero, i.size, i.bytes)) = some (some (.agg #[.int .i64 0, .int .i64 0, .slice none 0 0]), 3, 40))
    (v : Value) (S : List (Int × Int × List Int)) (vs : List Value) (hs : a.eval s = v) (hown : OwnT w base v S vs) (d e : Int) (ya : Option Addr) (yn yc : Nat) (xs : List Int) (hy : Own w base 3 .i64 (.slice ya yn yc) xs)
    (hyb : ∀ j, j < S.length → ∀ (a a' : Addr) (n n' c c' : Nat), vs.getD j (.bool false) = .slice (some a) n c → Value.slice ya yn yc = .slice (some a') n' c' → a.block < a'.block)
    (hx : a.eval x = .slice (some ⟨gb, 0, none⟩) 1 1)
    (hlen : S.length < 1000000000)
    (h : ∀ v' w', OwnT w' base v' (S ++ [(d, e, xs)]) (vs ++ [.slice ya yn yc]) → Below base w w' → wpList P ops Q rest (a.put o.dst v') w') : wpList P ops Q (o :: rest) a (w.alloc (.cells #[.int .i64 d, .int .i64 e, .slice ya yn yc] 104)) := by
  subst hgb
  obtain ⟨i, hi, hz0, hz1, hz2⟩ := info_parts hinfo
  have hb := hown.1
  have hlt := hown.2.2.1.lt
  refine wpList_append_own _ hgd s x t ho base 104 i (.agg #[.int .i64 0, .int .i64 0, .slice none 0 0]) 3 40 ht hi hz0 hz1 hz2 rfl (by decide) v S.length _ hs (hown.2.2.1.alloc _) ⟨w.heap.size, 0, none⟩ 1 1 [.int .i64 d, .int .i64 e, .slice ya yn yc] hx rfl ?_ ?_ (by unfold maxLen; omega) (by omega) (Nat.le_trans hb (by simp)) ?_
  · intro j u hj
    match j, hj with
    | 0, hj => simp at hj; subst hj; simp [Addr.add]
    | 1, hj => simp at hj; subst hj; simp [Addr.add]
    | 2, hj => simp at hj; subst hj; simp [Addr.add]
  · intro u hu; simp at hu; rcases hu with rfl | rfl | rfl <;> rfl
  · intro v' w' hown' hgrow _
    refine h v' w' (OwnT.pushed (x := (d, e, xs)) hown hy hyb hown' hgrow) ?_
    exact ((Below.refl base w).alloc hb _).grown hgrow (Nat.le_trans hb (by simp)) (fun g hg => (hlt g hg).1)
theorem Tryz.info104 : (Tryz.prog.info? 104).map (fun i => (i.zero, i.size, i.bytes)) = some (some (.agg #[.int .i64 0, .int .i64 0, .slice none 0 0]), 3, 40) := by kernel_rfl
end Go.Proofs.YtnnakmgngkpghaaGreat

/- The contract of Steps of the program. -/
namespace Go.Proofs.YtnnakmgngkpghaaGreat
open Go.RowKit
set_option linter.unusedVariables false

theorem skips_next (S : List (Int × Int × List Int)) (i : Nat) : S ++ List.replicate (i + 1) skip = (S ++ List.replicate i skip) ++ [skip] := by
  rw [List.replicate_succ', List.append_assoc]

set_option maxRecDepth 100000 in
set_option maxHeartbeats 6400000 in
theorem impl_steps (v : Value) (d : Int) (xs : List Int) (w : World) (hl : xs.length ≤ 1048576) (hv : BV w v d xs) :
    Calls Tryz.prog 113 #[v] w fun e w' => ∃ v', e = .returned v' ∧ (∃ vs, OwnT w' w.heap.size v' (stepsR d xs) vs) ∧ Below w.heap.size w w' := by
  obtain ⟨a0, c0, rfl, u0⟩ := hv
  have HB0 := hid ((Below.refl w.heap.size w).alloc (Nat.le_refl _) (.cells #[.int .i64 d, .slice a0 xs.length c0] 65))
  have HB := hid (HB0.out.alloc (show w.heap.size ≤ (w.alloc (.cells #[.int .i64 d, .slice a0 xs.length c0] 65)).heap.size by simp) (.cells #[] 104))
  have HT := hid ((Two.new w (.int .i64 d) (.slice a0 xs.length c0) 65).alloc (.cells #[] 104))
  have HO := hid (OwnT.empty (w.alloc (.cells #[.int .i64 d, .slice a0 xs.length c0] 65)) w.heap.size (by simp))
  have HU := hid u0
  have HBO := hid (impl_blockOk (.agg #[.int .i64 d, .slice a0 xs.length c0]) d xs _ hl ⟨a0, c0, rfl, u0.below (Nat.le_refl _) HB.out⟩)
  simp only [World.size_alloc] at HO
  clear u0 HB0
  by_cases hok : blkOk d xs = true
  · have HR := hid (show stepsR d xs = stepsOf xs by unfold stepsR; rw [if_pos hok])
    have h63 : xs.length = 63 := by
      unfold blkOk at hok
      simp only [Bool.and_eq_true, decide_eq_true_eq] at hok
      exact hok.2.1
    have HIN := hid (fun k (hk : k < 63) => (show -1023 ≤ xs.getD k 0 ∧ xs.getD k 0 ≤ 1023 by
      unfold blkOk at hok
      simp only [Bool.and_eq_true, decide_eq_true_eq] at hok
      simpa [inC] using coefTo_at xs 63 hok.2.2 k hk))
    rw [hok] at HBO
    rw [h63] at HU HT HO HB HBO ⊢
    clear hok h63 hl
    go_enter Tryz.func113, Tryz.ntmps113
    go_wp2_with fail
    refine HBO.out.mono ?_
    generalize (w.alloc (.cells #[.int .i64 d, .slice a0 63 c0] 65)).alloc (.cells #[] 104) = wa at *
    rintro e w1 ⟨rfl, hb1⟩
    have B1 := hid (HB.out.trans (hb1.mono HB.out.size))
    have T1 := hid (HT.out.below hb1 HT.out.lt)
    have O1 := hid (HO.out.below hb1)
    clear hb1 HBO HO HT HB
    obtain ⟨q1, q2, q3, q4⟩ := T1.out.cells
    go_wp2_with fail
    clear q1 q2 q3 q4
    go_loopw [3, 4, 15] (fun s r i wr => ∃ (k : Nat) (vs : List Value), k ≤ 63 ∧ i = .int .i64 k ∧ r = .int .i64 ((stepTo xs k).2 : Nat) ∧ Hid (OwnT wr w.heap.size s (stepTo xs k).1 vs) ∧ Hid (Below w.heap.size w wr)) (fun _ _ i _ => 63 - (intOf i).toNat)
    case atStart => exact ⟨0, [], by omega, rfl, rfl, O1.out, B1.out⟩
    case round =>
      obtain ⟨k, vs, hk, rfl, rfl, hown, hb⟩ := hrel
      have hlen := stepTo_len xs k
      by_cases hlt : k < 63
      · obtain ⟨b, off, rfl, hc⟩ := (HU.out.below (Nat.le_refl _) hb.out).2 k hlt
        have hlt' : (k : Int) < 63 := by omega
        have hin := HIN.out k hlt
        have HZ := hid (stepTo_zero xs k)
        have HNM := hid (stepTo_num xs k)
        have HSZ := hid (fun q => impl_size (xs.getD k 0) q (by omega) (by omega))
        have HRS := hid (fun q => impl_rest (xs.getD k 0) q (by omega) (by omega))
        generalize (stepTo xs k).1 = S at *
        generalize (stepTo xs k).2 = r at *
        generalize hX : xs.getD k 0 = X at *
        by_cases hX0 : X = 0
        · have hd : (X == 0) = true := by simpa using hX0
          have HZ2 := hid (HZ.out hX0)
          clear HZ HNM HSZ HRS hX hX0
          go_wp2_with fail
          go_roundw
          case rel => exact ⟨k + 1, vs, by omega, by go_num, val_int (by rw [HZ2.out]; show _ = ((r + 1 : Nat) : Int); omega), by rw [HZ2.out]; exact hown.out, hb.out⟩
          case measure => simp [intOf]; omega
        · have hd : (X == 0) = false := by simpa using hX0
          have HN2 := hid (HNM.out hX0)
          clear HZ HNM hX hX0
          go_wp2_with fail
          go_loopw [3, 4] (fun s q wq => ∃ (i y : Nat) (us : List Value), i ≤ r / 16 ∧ q = .int .i64 (y : Nat) ∧ Hid (y + 16 * i = r) ∧ y ≤ 63 ∧ Hid (OwnT wq w.heap.size s (S ++ List.replicate i skip) us) ∧ Hid (Below w.heap.size w wq)) (fun _ q _ => (intOf q).toNat)
          case atStart => exact ⟨0, r, vs, by omega, rfl, rfl, by omega, by show OwnT _ _ _ _ _; simpa using hown.out, hb.out⟩
          case round =>
            obtain ⟨i, y, us, hi, rfl, hy, hy63, hownq, hbq⟩ := hrel
            obtain ⟨so, sc', hsv⟩ := hownq.out.shape
            have hSl : (S ++ List.replicate i skip).length < 1000000000 := by simp only [List.length_append, List.length_replicate]; omega
            by_cases hgt : 15 < y
            · have hgt' : (15 : Int) < (y : Int) := by omega
              have hA := (Below.refl wr.heap.size wr).alloc (Nat.le_refl _) (.cells #[] 3)
              have HOA := hid (hownq.out.below hA)
              have HYA := hid (Own.empty wr 3 .i64 w.heap.size hbq.out.size)
              have HYB := hid (show ∀ j, j < (S ++ List.replicate i skip).length → ∀ (a a' : Addr) (n n' c c' : Nat), us.getD j (.bool false) = .slice (some a) n c → Value.slice (some ⟨wr.heap.size, 0, none⟩) 0 0 = .slice (some a') n' c' → a.block < a'.block from fun j hj a a' n n' c c' e1 e2 => by
                have := hownq.out.lt j hj a n c e1
                cases e2
                exact this)
              have HBA := hid (hbq.out.trans (hA.mono hbq.out.size))
              have hy16 : y - 16 + 16 * (i + 1) = r := by have := hy.out; omega
              have HY16 := hid hy16
              have hi2 : i + 1 ≤ r / 16 := by omega
              subst hsv
              clear hA hy16
              generalize hT : S ++ List.replicate i skip = T at *
              have HT2 := hid hT
              clear hT
              go_wp2_with (at_builtin; refine wpList_pushS (wr.alloc (.cells #[] 3)) (wr.heap.size + 1) (by simp) rfl _ _ 101 rfl w.heap.size Tryz.underlying101 Tryz.info104 _ T us (by rfl) HOA.out 15 0 (some ⟨wr.heap.size, 0, none⟩) 0 0 [] HYA.out HYB.out (by rfl) hSl ?_)
              intro v9 w9 ho9 hb9
              have HO9 := hid ho9
              have HB9 := hid (HBA.out.trans hb9)
              clear ho9 hb9
              go_wp2_with fail
              go_roundw
              case rel => exact ⟨i + 1, y - 16, _, hi2, val_int (by omega), HY16.out, by omega, by rw [skips_next, HT2.out]; exact HO9.out, HB9.out⟩
              case measure => simp [intOf]; omega
            · have hgt' : ¬ (15 : Int) < (y : Int) := by omega
              have hir : i = r / 16 := by have := hy.out; omega
              have hyr : y = r % 16 := by have := hy.out; omega
              subst hir
              subst hyr
              have HSZ2 := hid (HSZ.out wr)
              have HRS2 := hid (HRS.out wr)
              have HOLD := hid (fun j hj a n c e1 => hownq.out.lt j hj a n c e1)
              have hwr := hbq.out.size
              subst hsv
              generalize hT : S ++ List.replicate (r / 16) skip = T at *
              have HT2 := hid hT
              clear hT hgt hi
              generalize sz X = ZX at *
              generalize restL X = RX at *
              go_wp2_with fail
              refine HSZ2.out.mono ?_
              rintro e w5 ⟨rfl, rfl⟩
              go_wp2_with fail
              refine HRS2.out.mono ?_
              rintro e w6 ⟨v6, rfl, ho6, hb6⟩
              obtain ⟨ya, yc, hyv⟩ := ho6.shape
              subst hyv
              have HO6 := hid (hownq.out.below hb6)
              have HY6 := hid (ho6.mono hwr)
              have HYB := hid (show ∀ j, j < T.length → ∀ (a a' : Addr) (n n' c c' : Nat), us.getD j (.bool false) = .slice (some a) n c → Value.slice ya RX.length yc = .slice (some a') n' c' → a.block < a'.block from fun j hj a a' n n' c c' e1 e2 => by
                have h1 := HOLD.out j hj a n c e1
                cases e2
                have h2 := ho6.ge.1
                omega)
              have HB6 := hid (hbq.out.trans (hb6.mono hbq.out.size))
              clear ho6 hb6
              go_wp2_with (at_builtin; refine wpList_pushS w6 w6.heap.size rfl rfl _ _ 101 rfl w.heap.size Tryz.underlying101 Tryz.info104 _ T us (by rfl) HO6.out _ ZX ya RX.length yc RX HY6.out HYB.out (by rfl) hSl ?_)
              intro v9 w9 ho9 hb9
              have HO9 := hid ho9
              have HB9 := hid (HB6.out.trans hb9)
              clear ho9 hb9
              go_wp2_with fail
              go_roundw
              case rel => exact ⟨k + 1, _, by omega, by go_num, val_int (by rw [HN2.out]; rfl), by rw [HN2.out]; exact HO9.out, HB9.out⟩
              case measure => simp [intOf]; omega
      · obtain rfl : k = 63 := by omega
        have HST := hid (show stepsOf xs = if 0 < (stepTo xs 63).2 then (stepTo xs 63).1 ++ [(0, 0, [])] else (stepTo xs 63).1 from rfl)
        generalize (stepTo xs 63).1 = S at *
        generalize (stepTo xs 63).2 = r at *
        have hSl : S.length < 1000000000 := by omega
        obtain ⟨so, sc', hsv⟩ := hown.out.shape
        by_cases hr0 : 0 < r
        · have hr0' : (0 : Int) < (r : Int) := by omega
          rw [if_pos hr0] at HST
          have hA := (Below.refl wr.heap.size wr).alloc (Nat.le_refl _) (.cells #[] 3)
          have HOA := hid (hown.out.below hA)
          have HYA := hid (Own.empty wr 3 .i64 w.heap.size hb.out.size)
          have HYB := hid (show ∀ j, j < S.length → ∀ (a a' : Addr) (n n' c c' : Nat), vs.getD j (.bool false) = .slice (some a) n c → Value.slice (some ⟨wr.heap.size, 0, none⟩) 0 0 = .slice (some a') n' c' → a.block < a'.block from fun j hj a a' n n' c c' e1 e2 => by
            have := hown.out.lt j hj a n c e1
            cases e2
            exact this)
          have HBA := hid (hb.out.trans (hA.mono hb.out.size))
          subst hsv
          clear hA
          go_wp2_with (at_builtin; refine wpList_pushS (wr.alloc (.cells #[] 3)) (wr.heap.size + 1) (by simp) rfl _ _ 101 rfl w.heap.size Tryz.underlying101 Tryz.info104 _ S vs (by rfl) HOA.out 0 0 (some ⟨wr.heap.size, 0, none⟩) 0 0 [] HYA.out HYB.out (by rfl) hSl ?_)
          intro v9 w9 ho9 hb9
          obtain ⟨s9, c9, hv9⟩ := ho9.shape
          have HO9 := hid ho9
          have HB9 := hid (HBA.out.trans hb9)
          subst hv9
          clear ho9 hb9
          go_wp2_with fail
          go_ret
          exact ⟨_, rfl, ⟨_, by rw [HR.out, HST.out]; exact HO9.out⟩, HB9.out⟩
        · have hr0' : ¬ (0 : Int) < (r : Int) := by omega
          rw [if_neg hr0] at HST
          subst hsv
          go_wp2_with fail
          go_ret
          exact ⟨_, rfl, ⟨_, by rw [HR.out, HST.out]; exact hown.out⟩, hb.out⟩
  · have hok' : blkOk d xs = false := by simpa using hok
    have HR := hid (show stepsR d xs = [] by unfold stepsR; rw [if_neg hok])
    rw [hok'] at HBO
    clear hok hok'
    go_enter Tryz.func113, Tryz.ntmps113
    go_wp2_with fail
    refine HBO.out.mono ?_
    generalize (w.alloc (.cells #[.int .i64 d, .slice a0 xs.length c0] 65)).alloc (.cells #[] 104) = wa at *
    rintro e w1 ⟨rfl, hb1⟩
    have B1 := hid (HB.out.trans (hb1.mono HB.out.size))
    have O1 := hid (HO.out.below hb1)
    clear hb1
    go_wp2_with fail
    go_ret
    exact ⟨_, rfl, ⟨_, by rw [HR.out]; exact O1.out⟩, B1.out⟩
end Go.Proofs.YtnnakmgngkpghaaGreat
