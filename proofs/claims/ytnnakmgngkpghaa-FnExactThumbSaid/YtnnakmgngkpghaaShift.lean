/- Rows of blocks that are read; contracts of Shift, of the program and of the specification. -/
import Derived.Test.YtnnakmgngkpghaaBlk
namespace Go.Proofs.Ytnnakmgngkpghaa
open Go.RowKit
set_option linter.unusedVariables false

/-- The j-th of some blocks. -/
def nth (L : List (Int × List Int)) (j : Nat) : Int × List Int := L.getD j (0, [])
/-- A row of blocks that is read: two cells a block. -/
def BRow (w : World) (ao : Option Addr) (L : List (Int × List Int)) : Prop :=
  ∀ j, j < L.length → ∃ b off a c, ao = some ⟨b, off, none⟩ ∧ w.cell? ⟨b, off + j * 2, none⟩ = some (.int .i64 (nth L j).1) ∧ w.cell? ⟨b, off + j * 2 + 1, none⟩ = some (.slice a (nth L j).2.length c) ∧ View .i64 w a (nth L j).2.length (nth L j).2
theorem BRow.below {w w' : World} {ao : Option Addr} {L : List (Int × List Int)} (h : BRow w ao L) (hb : Below w.heap.size w w') : BRow w' ao L := by
  intro j hj
  obtain ⟨b, off, a, c, h1, h2, h3, h4⟩ := h j hj
  exact ⟨b, off, a, c, h1, (hb.cell (p := ⟨b, off + j * 2, none⟩) (World.block_lt_of_cell? w _ h2)).trans h2, (hb.cell (p := ⟨b, off + j * 2 + 1, none⟩) (World.block_lt_of_cell? w _ h3)).trans h3, h4.below (Nat.le_refl _) hb⟩

/-- The first k blocks are right. -/
def oksTo (L : List (Int × List Int)) : Nat → Bool
  | 0 => true
  | k + 1 => oksTo L k && blkOk (nth L k).1 (nth L k).2
theorem oksTo_bad (L : List (Int × List Int)) (k : Nat) (h : blkOk (nth L k).1 (nth L k).2 = false) : ∀ n, k < n → oksTo L n = false
  | n + 1, hn => by
    rw [oksTo]
    by_cases e : k = n
    · subst e; rw [h, Bool.and_false]
    · rw [oksTo_bad L k h n (by omega), Bool.false_and]
theorem oksTo_at (L : List (Int × List Int)) : ∀ n, oksTo L n = true → ∀ k, k < n → blkOk (nth L k).1 (nth L k).2 = true
  | n + 1, h, k, hk => by
    simp only [oksTo, Bool.and_eq_true] at h
    by_cases e : k = n
    · subst e; exact h.2
    · exact oksTo_at L n h.1 k (by omega)
theorem blkOk_dc {d : Int} {xs : List Int} (h : blkOk d xs = true) : -1023 ≤ d ∧ d ≤ 1023 := by
  unfold blkOk at h
  simp only [Bool.and_eq_true] at h
  simpa [inC] using h.1
/-- What the Dc ahead of block k counts as. -/
def ahead (up : Bool) (L : List (Int × List Int)) (k : Nat) : Int := if up = true ∧ 0 < k then (nth L (k - 1)).1 else 0
/-- What is told of the first k blocks. -/
def shl (up : Bool) (L : List (Int × List Int)) : Nat → List Int
  | 0 => []
  | k + 1 => shl up L k ++ [(nth L k).1 - ahead up L k]
theorem shl_len (up : Bool) (L : List (Int × List Int)) : ∀ k, (shl up L k).length = k
  | 0 => rfl
  | k + 1 => by rw [shl, List.length_append, shl_len up L k]; rfl
theorem ahead_bd (up : Bool) (L : List (Int × List Int)) (k : Nat) (h : oksTo L k = true) : -1023 ≤ ahead up L k ∧ ahead up L k ≤ 1023 := by
  unfold ahead
  split
  · rename_i hc
    exact blkOk_dc (oksTo_at L k h (k - 1) (by omega))
  · omega
/-- What Shift answers. -/
def shR (up : Bool) (L : List (Int × List Int)) : List Int × Bool := if L.length ≤ 4000 ∧ oksTo L L.length = true then (shl up L L.length, true) else ([], false)
theorem shR_yes {up : Bool} {L : List (Int × List Int)} (h : L.length ≤ 4000) (h2 : oksTo L L.length = true) : shR up L = (shl up L L.length, true) := by unfold shR; rw [if_pos ⟨h, h2⟩]
theorem shR_no {up : Bool} {L : List (Int × List Int)} (h : ¬ (L.length ≤ 4000 ∧ oksTo L L.length = true)) : shR up L = ([], false) := by unfold shR; rw [if_neg h]
theorem shR_len (up : Bool) (L : List (Int × List Int)) : (shR up L).1.length ≤ 4000 := by
  unfold shR
  split
  · rename_i h
    show (shl up L L.length).length ≤ 4000
    rw [shl_len]
    exact h.1
  · simp

/-- 'out = append(out, y)': blocks of another type stay what they are. -/
theorem wpList_pushT {P : Program} {ops : Array Oper} {rest : List Oper} {o : Oper} {a : Act} {Q : Exit → Act → World → Prop} (w : World) (hgd : o.guard = none) (s x : Operand) (t : TypeId)
    (ho : o.op = .call { callee := .builtin .append, args := #[s, x], argTypes := #[t, t] })
    (base : Nat) (e : TypeId) (k : IntKind) (z : Int) (bytes : Nat) (ht : P.underlying t = some (.slice e)) (hinfo : (P.info? e).map (fun i => (i.zero, i.size, i.bytes)) = some (some (.int k z), 1, bytes))
    (v : Value) (xs : List Int) (hs : a.eval s = v) (hown : Own w base e k v xs) (y : Int) (hx : a.eval x = .slice (some ⟨w.heap.size, 0, none⟩) 1 1)
    (hlen : xs.length < 1000000000000) (hbytes : bytes ≤ 8)
    (h : ∀ v' w', Own w' base e k v' (xs ++ [y]) → Below base w w' → (∀ (g : Nat) (cur : Array Value) (tt : TypeId), tt ≠ e → w.heap[g]? = some (.cells cur tt (0, 0)) → w'.heap[g]? = some (.cells cur tt (0, 0))) → wpList P ops Q rest (a.put o.dst v') w') : wpList P ops Q (o :: rest) a (w.alloc (.cells #[.int k y] e)) := by
  obtain ⟨i, hi, hz0, hz1, hz2⟩ := info_parts hinfo
  have hb := hown.1
  have hlt := hown.2.lt
  have hmul : (xs.length + 1) * bytes ≤ (xs.length + 1) * 8 := Nat.mul_le_mul_left _ hbytes
  refine wpList_append_own _ hgd s x t ho base e i (.int k z) 1 bytes ht hi hz0 hz1 hz2 rfl (by decide) v xs.length _ hs (hown.2.alloc _) ⟨w.heap.size, 0, none⟩ 1 1 [.int k y] hx rfl ?_ ?_ (by unfold maxLen; omega) (by omega) (Nat.le_trans hb (by simp)) ?_
  · intro j u hj
    match j, hj with
    | 0, hj => simp at hj; subst hj; simp [Addr.add]
  · intro u hu; simp at hu; subst hu; rfl
  · intro v' w' hown' hgrow _
    refine h v' w' ⟨Nat.le_trans hb (Nat.le_trans (by simp) hgrow.size), ?_⟩ ?_ ?_
    · simpa using hown'
    · exact ((Below.refl base w).alloc hb _).grown hgrow (Nat.le_trans hb (by simp)) (fun g hg => (hlt g hg).1)
    · intro g cur tt htt hg
      have hglt : g < w.heap.size := (Array.getElem?_eq_some_iff.1 hg).1
      have h1 : (w.alloc (.cells #[.int k y] e)).heap[g]? = some (.cells cur tt (0, 0)) := (((Below.refl w.heap.size w).alloc (Nat.le_refl _) _).block g hglt).trans hg
      refine (hgrow.block g (Nat.lt_trans hglt (by simp)) ?_).trans h1
      intro eq
      rcases hown.2.2 with ⟨hv, _⟩ | ⟨g', cap, cur', hv, hg', hh, _⟩
      · subst hv; cases eq
      · subst hv
        have : g = g' := by simpa [Value.ownBlock] using eq
        subst this
        rw [hg] at hh
        cases hh
        exact htt rfl

set_option maxRecDepth 100000 in
set_option maxHeartbeats 1600000 in
theorem impl_shift (ao : Option Addr) (cap : Nat) (L : List (Int × List Int)) (up : Bool) (w : World) (hn : L.length ≤ 1048576) (hs : ∀ j, j < L.length → (nth L j).2.length ≤ 1048576) (hv : BRow w ao L) :
    Calls Try.prog 65 #[.slice ao L.length cap, .bool up] w fun e w' => ∃ v, e = .returned (.tuple #[v, .bool (shR up L).2]) ∧ Own w' w.heap.size 3 .i64 v (shR up L).1 ∧ Below w.heap.size w w' := by
  have HV := hid hv
  have HSZ := hid hs
  clear hv hs
  by_cases hl : (4000 : Int) < (L.length : Int)
  · rw [shR_no (fun h => by have := h.1; omega)]
    go_enter Try.func65, Try.ntmps65
    go_wp2_with fail
    go_ret2
    exact ⟨_, rfl, Own.empty _ _ _ _ (Nat.le_refl _), (Below.refl _ _).alloc (Nat.le_refl _) _⟩
  · have hl2 : L.length ≤ 4000 := by omega
    have HY := hid (fun h => shR_yes (up := up) hl2 h)
    have HN := hid (fun (h : oksTo L L.length = false) => shR_no (up := up) (L := L) (fun e => by rw [e.2] at h; exact Bool.noConfusion h))
    generalize shR up L = R at *
    go_enter Try.func65, Try.ntmps65
    go_wp2_with (at_make; refine wpList_mk0 w rfl _ _ 22 rfl w.heap.size 3 .i64 0 8 Try.underlying22 Try.info3 _ _ L.length rfl rfl (by omega) (by decide) (Nat.le_refl _) ?_)
    intro w0 ho0 hb0
    go_wp2_with fail
    go_loopw [6, 7, 19] (fun t a i wr => ∃ k : Nat, k ≤ L.length ∧ i = .int .i64 k ∧ a = .int .i64 (ahead up L k) ∧ Hid (oksTo L k = true) ∧ Hid (Own wr w.heap.size 3 .i64 t (shl up L k)) ∧ Hid (Below w.heap.size w wr)) (fun _ _ i _ => L.length - (intOf i).toNat)
    case atStart => exact ⟨0, by omega, rfl, val_int (by unfold ahead; rw [if_neg (by omega)]), rfl, ho0, hb0⟩
    case round =>
      obtain ⟨k, hk, rfl, rfl, hok, hown, hb⟩ := hrel
      by_cases hlt : k < L.length
      · obtain ⟨b, off, a, c, rfl, hc1, hc2, hvw⟩ := HV.out.below hb.out k hlt
        have hsk := HSZ.out k hlt
        have hlt' : (k : Int) < (L.length : Int) := by omega
        have habd := ahead_bd up L k hok.out
        have HST := hid (show shl up L (k + 1) = shl up L k ++ [(nth L k).1 - ahead up L k] from rfl)
        have HOK := hid (show oksTo L (k + 1) = (oksTo L k && blkOk (nth L k).1 (nth L k).2) from rfl)
        have HBAD := hid (fun h => oksTo_bad L k h L.length hlt)
        have HAH := hid (show ahead up L (k + 1) = if up = true then (nth L k).1 else 0 by
          unfold ahead
          cases up
          · rfl
          · rw [if_pos ⟨rfl, by omega⟩, if_pos rfl, Nat.add_sub_cancel])
        have hA := (Below.refl wr.heap.size wr).alloc (Nat.le_refl _) (.cells #[.int .i64 (nth L k).1, .slice a (nth L k).2.length c] 49)
        have HBO := hid (impl_blockOk (.agg #[.int .i64 (nth L k).1, .slice a (nth L k).2.length c]) (nth L k).1 (nth L k).2 (wr.alloc (.cells #[.int .i64 (nth L k).1, .slice a (nth L k).2.length c] 49)) hsk ⟨a, c, rfl, hvw.below (Nat.le_refl _) hA⟩)
        have HTW := hid (Two.new wr (.int .i64 (nth L k).1) (.slice a (nth L k).2.length c) 49)
        have HDC := hid (fun h => blkOk_dc (d := (nth L k).1) (xs := (nth L k).2) h)
        have hol := hid (shl_len up L k)
        have hol2 : (shl up L k).length < 1000000000000 := by rw [hol.out]; omega
        have hA2 := hid (hb.out.trans (hA.mono hb.out.size))
        have hO2 := hid (hown.out.below hA)
        generalize (nth L k).1 = D at *
        generalize (nth L k).2 = XS at *
        have HA1 := hid (show up = false → ahead up L k = 0 by intro e; unfold ahead; rw [if_neg (fun h => by rw [e] at h; exact Bool.noConfusion h.1)])
        generalize ahead up L k = AH at *
        clear hA hvw
        cases hB : blkOk D XS with
        | false =>
          have HNR := hid (HN.out (HBAD.out hB))
          rw [hB] at HBO
          clear HY HN HBAD HOK HST HAH HDC
          go_wp2_with fail
          refine HBO.out.mono ?_
          generalize wr.alloc (.cells #[.int .i64 D, .slice a XS.length c] 49) = wb at *
          rintro e w2 ⟨rfl, hb2⟩
          have B2 := hid (hA2.out.trans (hb2.mono hA2.out.size))
          have hs2 := B2.out.size
          clear hb2
          go_wp2_with fail
          go_ret2
          exact ⟨_, by rw [HNR.out]; rfl, by rw [HNR.out]; exact Own.empty _ _ _ _ hs2, B2.out.alloc hs2 _⟩
        | true =>
          have hdc := HDC.out hB
          have HOK2 := hid (show oksTo L (k + 1) = true by rw [HOK.out, hok.out, hB]; rfl)
          rw [hB] at HBO
          obtain ⟨d0, d1⟩ := hdc
          obtain ⟨e0, e1⟩ := habd
          clear HY HN HBAD HOK HDC
          go_wp2_with fail
          refine HBO.out.mono ?_
          generalize wr.alloc (.cells #[.int .i64 D, .slice a XS.length c] 49) = wb at *
          rintro e w2 ⟨rfl, hb2⟩
          have B2 := hid (hA2.out.trans (hb2.mono hA2.out.size))
          have T2 := hid (HTW.out.below hb2 HTW.out.lt)
          have O2 := hid (hO2.out.below hb2)
          clear hb2 hc1 hc2
          obtain ⟨q1, q2, q3, q4⟩ := T2.out.cells
          go_wp2_with (at_builtin; refine wpList_pushT _ rfl _ _ 22 rfl _ 3 .i64 0 8 Try.underlying22 Try.info3 _ _ rfl O2.out (D - AH) rfl hol2 (by decide) ?_)
          intro v3 w3 ho3 hb3 hk3
          have T3 : Two w3 wr.heap.size (.int .i64 D) (.slice a XS.length c) 49 := hk3 _ _ 49 (by decide) T2.out
          have HO3 := hid ho3
          have B3 := hid (B2.out.trans hb3)
          clear ho3 hb3 hk3 q1 q2 q3 q4
          obtain ⟨q1, q2, q3, q4⟩ := T3.cells
          have HQ := hid T3
          clear T3
          cases up with
          | true =>
            rw [if_pos rfl] at HAH
            go_wp2_with fail
            go_roundw
            case rel => exact ⟨k + 1, by omega, by go_num, val_int HAH.out.symm, HOK2.out, by rw [HST.out]; exact HO3.out, B3.out⟩
            case measure => simp [intOf]; omega
          | false =>
            have HA0 := hid (show AH = ahead false L (k + 1) by rw [HAH.out, HA1.out rfl]; rfl)
            go_wp2_with fail
            go_roundw
            case rel => exact ⟨k + 1, by omega, by go_num, val_int HA0.out, HOK2.out, by rw [HST.out]; exact HO3.out, B3.out⟩
            case measure => simp [intOf]; omega
      · obtain rfl : k = L.length := by omega
        have HR := hid (HY.out hok.out)
        obtain ⟨so, sc', hsv⟩ := hown.out.shape
        subst hsv
        go_wp2_with fail
        go_ret2
        exact ⟨_, by rw [HR.out]; rfl, by rw [HR.out]; exact hown.out, hb.out⟩

set_option maxRecDepth 100000 in
set_option maxHeartbeats 1600000 in
theorem spec_shift (ao : Option Addr) (cap : Nat) (L : List (Int × List Int)) (up : Bool) (w : World) (hn : L.length ≤ 1048576) (hs : ∀ j, j < L.length → (nth L j).2.length ≤ 1048576) (hv : BRow w ao L) :
    Calls Try.prog 43 #[.slice ao L.length cap, .bool up] w fun e w' => ∃ v, e = .returned (.tuple #[v, .bool (shR up L).2]) ∧ Own w' w.heap.size 3 .i64 v (shR up L).1 ∧ Below w.heap.size w w' := by
  have HV := hid hv
  have HSZ := hid hs
  clear hv hs
  by_cases hl : (4000 : Int) < (L.length : Int)
  · rw [shR_no (fun h => by have := h.1; omega)]
    go_enter Try.func43, Try.ntmps43
    go_wp2_with fail
    go_ret2
    exact ⟨_, rfl, Own.empty _ _ _ _ (Nat.le_refl _), (Below.refl _ _).alloc (Nat.le_refl _) _⟩
  · have hl2 : L.length ≤ 4000 := by omega
    have HY := hid (fun h => shR_yes (up := up) hl2 h)
    have HN := hid (fun (h : oksTo L L.length = false) => shR_no (up := up) (L := L) (fun e => by rw [e.2] at h; exact Bool.noConfusion h))
    generalize shR up L = R at *
    have HO0 := hid (Own.empty w 3 .i64 w.heap.size (Nat.le_refl _))
    have HB0 := hid ((Below.refl w.heap.size w).alloc (Nat.le_refl _) (.cells #[] 3))
    go_enter Try.func43, Try.ntmps43
    go_wp2_with fail
    generalize w.alloc (.cells #[] 3) = w0 at *
    go_loopw [6, 7] (fun t i wr => ∃ k : Nat, k ≤ L.length ∧ i = .int .i64 k ∧ Hid (oksTo L k = true) ∧ Hid (Own wr w.heap.size 3 .i64 t (shl up L k)) ∧ Hid (Below w.heap.size w wr)) (fun _ i _ => L.length - (intOf i).toNat)
    case atStart => exact ⟨0, by omega, rfl, rfl, HO0.out, HB0.out⟩
    case round =>
      obtain ⟨k, hk, rfl, hok, hown, hb⟩ := hrel
      by_cases hlt : k < L.length
      · obtain ⟨b, off, a, c, rfl, hc1, hc2, hvw⟩ := HV.out.below hb.out k hlt
        have hsk := HSZ.out k hlt
        have hlt' : (k : Int) < (L.length : Int) := by omega
        have habd := ahead_bd up L k hok.out
        have HST := hid (show shl up L (k + 1) = shl up L k ++ [(nth L k).1 - ahead up L k] from rfl)
        have HOK := hid (show oksTo L (k + 1) = (oksTo L k && blkOk (nth L k).1 (nth L k).2) from rfl)
        have HBAD := hid (fun h => oksTo_bad L k h L.length hlt)
        have HBO := hid (spec_blockOk (.agg #[.int .i64 (nth L k).1, .slice a (nth L k).2.length c]) (nth L k).1 (nth L k).2 wr hsk ⟨a, c, rfl, hvw⟩)
        have HDC := hid (fun h => blkOk_dc (d := (nth L k).1) (xs := (nth L k).2) h)
        have hol := hid (shl_len up L k)
        have hol2 : (shl up L k).length < 1000000000000 := by rw [hol.out]; omega
        have HC1 := hid (fun q (hq : Below wr.heap.size wr q) => (hq.cell (p := ⟨b, off + k * 2, none⟩) (World.block_lt_of_cell? wr _ hc1)).trans hc1)
        have HPRE := hid (fun (h : 0 < k) q (hq : Below wr.heap.size wr q) => (show q.cell? ⟨b, off + (k - 1) * 2, none⟩ = some (.int .i64 (nth L (k - 1)).1) from by
          obtain ⟨b', off', a', c', e', h1', _, _⟩ := HV.out.below hb.out (k - 1) (by omega)
          cases e'
          exact (hq.cell (p := ⟨b, off + (k - 1) * 2, none⟩) (World.block_lt_of_cell? wr _ h1')).trans h1'))
        have HAH1 := hid (fun (h : ¬ (up = true ∧ 0 < k)) => (show ahead up L k = 0 by unfold ahead; rw [if_neg h]))
        have HAH2 := hid (fun (h : up = true ∧ 0 < k) => (show ahead up L k = (nth L (k - 1)).1 by unfold ahead; rw [if_pos h]))
        have hpb := hid (fun (h : 0 < k) => blkOk_dc (oksTo_at L k hok.out (k - 1) (by omega)))
        generalize (nth L k).1 = D at *
        generalize (nth L k).2 = XS at *
        generalize ahead up L k = AH at *
        clear hvw
        cases hB : blkOk D XS with
        | false =>
          have HNR := hid (HN.out (HBAD.out hB))
          rw [hB] at HBO
          clear HY HN HBAD HOK HST HDC HC1 HPRE HAH1 HAH2 hpb
          go_wp2_with fail
          refine HBO.out.mono ?_
          rintro e w2 ⟨rfl, hb2⟩
          have B2 := hid (hb.out.trans (hb2.mono hb.out.size))
          have hs2 := B2.out.size
          clear hb2
          go_wp2_with fail
          go_ret2
          exact ⟨_, by rw [HNR.out]; rfl, by rw [HNR.out]; exact Own.empty _ _ _ _ hs2, B2.out.alloc hs2 _⟩
        | true =>
          have hdc := HDC.out hB
          have HOK2 := hid (show oksTo L (k + 1) = true by rw [HOK.out, hok.out, hB]; rfl)
          rw [hB] at HBO
          obtain ⟨d0, d1⟩ := hdc
          obtain ⟨e0, e1⟩ := habd
          clear HY HN HBAD HOK HDC
          go_wp2_with fail
          refine HBO.out.mono ?_
          rintro e w2 ⟨rfl, hb2⟩
          have B2 := hid (hb.out.trans (hb2.mono hb.out.size))
          have O2 := hid (hown.out.below hb2)
          have hq1 := HC1.out w2 hb2
          have HP2 := hid (fun h => HPRE.out h w2 hb2)
          clear hb2 hc1 hc2 HC1 HPRE
          by_cases hu : up = true ∧ 0 < k
          · obtain ⟨rfl, hk0⟩ := hu
            have hpc := HP2.out hk0
            have hbd := hpb.out hk0
            have HAE := hid (HAH2.out ⟨rfl, hk0⟩)
            have hk0' : (0 : Int) < (k : Int) := by omega
            obtain ⟨j, rfl⟩ : ∃ j, k = j + 1 := ⟨k - 1, by omega⟩
            simp only [Nat.add_sub_cancel] at hpc hbd HAE
            generalize (nth L j).1 = D0 at *
            have hdd := HAE.out
            subst hdd
            obtain ⟨f0, f1⟩ := hbd
            have hj1 : ((j + 1 : Nat) : Int) - 1 = (j : Int) := by omega
            have hj2 : (j : Int) < (L.length : Int) := by omega
            clear HAH1 HAH2 HP2 hpb HAE
            go_wp2_with (at_builtin; refine wpList_push _ rfl _ _ 22 rfl _ 3 .i64 0 8 Try.underlying22 Try.info3 _ _ rfl O2.out (D - AH) rfl hol2 (by decide) ?_)
            intro v3 w3 ho3 hb3
            go_wp2_with fail
            go_roundw
            case rel => exact ⟨j + 1 + 1, by omega, by go_num, HOK2.out, by rw [HST.out]; exact ho3, B2.out.trans hb3⟩
            case measure => simp [intOf]; omega
          · have HAE := hid (HAH1.out hu)
            have h0 := HAE.out
            subst h0
            cases up with
            | true =>
              have hk0 : ¬ (0 : Int) < (k : Int) := fun h => hu ⟨rfl, by omega⟩
              clear HAH1 HAH2 HP2 hpb HAE hu
              go_wp2_with (at_builtin; refine wpList_push _ rfl _ _ 22 rfl _ 3 .i64 0 8 Try.underlying22 Try.info3 _ _ rfl O2.out D rfl hol2 (by decide) ?_)
              intro v3 w3 ho3 hb3
              go_wp2_with fail
              go_roundw
              case rel => exact ⟨k + 1, by omega, by go_num, HOK2.out, by rw [HST.out, Int.sub_zero]; exact ho3, B2.out.trans hb3⟩
              case measure => simp [intOf]; omega
            | false =>
              clear HAH1 HAH2 HP2 hpb HAE hu
              go_wp2_with (at_builtin; refine wpList_push _ rfl _ _ 22 rfl _ 3 .i64 0 8 Try.underlying22 Try.info3 _ _ rfl O2.out D rfl hol2 (by decide) ?_)
              intro v3 w3 ho3 hb3
              go_wp2_with fail
              go_roundw
              case rel => exact ⟨k + 1, by omega, by go_num, HOK2.out, by rw [HST.out, Int.sub_zero]; exact ho3, B2.out.trans hb3⟩
              case measure => simp [intOf]; omega
      · obtain rfl : k = L.length := by omega
        have HR := hid (HY.out hok.out)
        obtain ⟨so, sc', hsv⟩ := hown.out.shape
        subst hsv
        go_wp2_with fail
        go_ret2
        exact ⟨_, by rw [HR.out]; rfl, by rw [HR.out]; exact hown.out, hb.out⟩
end Go.Proofs.Ytnnakmgngkpghaa
