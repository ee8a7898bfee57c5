/- Contracts of bytesOf and of PutCodes, of the program and of the specification. -/
import Derived.Test.YtmdmolofiblbmaaOkBoth
import Derived.Deep.RegionHeld3
namespace Go.Proofs.Ytmdmolofiblbmaa
open Go.RowKit
set_option linter.unusedVariables false

/-- Numbers that are bytes. -/
def Byt (xs : List Int) : Prop := ∀ j, j < xs.length → 0 ≤ xs.getD j 0 ∧ xs.getD j 0 ≤ 255

theorem strOfNums_append (xs ys : List Int) : strOfNums xs ++ strOfNums ys = strOfNums (xs ++ ys) := by
  apply ByteArray.ext
  rw [ByteArray.data_append]
  simp [strOfNums]

theorem take_next (xs : List Int) (k : Nat) (h : k < xs.length) : xs.take (k + 1) = xs.take k ++ [xs.getD k 0] := by
  rw [List.take_add_one, List.getElem?_eq_getElem h]
  simp [List.getD_eq_getElem?_getD, h]

theorem okTo_byt {cs : List Int} (hl : cs.length = 16) (h : okTo cs 16 = true) : Byt cs := fun j hj => okTo_at cs 16 h j (by omega)
theorem apart_byt {ss : List Int} (h : apartTo ss ss.length = true) : Byt ss := by
  intro j hj
  have := apartTo_le ss ss.length (j + 1) (by omega) h
  simp only [apartTo, Bool.and_eq_true] at this
  exact (inB_iff _).1 this.2.1
theorem right_byt {cs ss : List Int} (h : rightC cs ss = true) : cs.length = 16 ∧ Byt cs ∧ Byt ss ∧ 1 ≤ ss.length ∧ ss.length ≤ 255 := by
  obtain ⟨⟨h1, h2, h3, h4⟩, h5, h6⟩ := (right_iff cs ss).1 h
  exact ⟨h1, okTo_byt h1 h2, apart_byt h6, by omega, by omega⟩

set_option maxHeartbeats 800000 in
theorem impl_bytesOf (ao : Option Addr) (cap : Nat) (xs : List Int) (w : World) (hn : xs.length ≤ 1048576) (hv : View .i64 w ao xs.length xs) (hall : Byt xs) :
    Calls Try.prog 52 #[.slice ao xs.length cap] w fun e w' => e = .returned (.string (strOfNums xs)) ∧ Below w.heap.size w w' := by
  have HV := hid hv
  have HA := hid hall
  have HS := hid (fun k (h : k < xs.length) => take_next xs k h)
  have HE := hid (List.take_length (l := xs))
  have HL := hid (fun k (h : k ≤ xs.length) => List.length_take_of_le h)
  obtain ⟨n, hN⟩ : ∃ n, n = xs.length := ⟨_, rfl⟩
  unfold Byt at HA
  rw [← hN] at HV HA HS HE HL hn ⊢
  clear hv hall hN
  go_enter Try.func52, Try.ntmps52
  go_wp2_with (at_make; refine wpList_mk0 w rfl _ _ 22 rfl w.heap.size 5 .u8 0 1 Try.underlying22 Try.info5 _ _ n rfl rfl (by omega) (by decide) (Nat.le_refl _) ?_)
  intro w0 hown0 hb0
  go_wp2
  go_loopw [3, 11] (fun v i wr => ∃ k : Nat, k ≤ n ∧ i = .int .i64 k ∧ Own wr w.heap.size 5 .u8 v (xs.take k) ∧ Below w.heap.size w wr) (fun _ i _ => n - (intOf i).toNat)
  case atStart => exact ⟨0, by omega, rfl, hown0, hb0⟩
  case round =>
    obtain ⟨k, hk, rfl, hown, hb⟩ := hrel
    clear hown0 hb0
    by_cases hlt : k < n
    · have hlt' : (k : Int) < (n : Int) := by omega
      obtain ⟨b, off, rfl, hc⟩ := HV.out.2 k hlt
      have hcr : wr.cell? ⟨b, off + k, none⟩ = some (.int .i64 (xs.getD k 0)) := (hb.cell (p := ⟨b, off + k, none⟩) (World.block_lt_of_cell? w _ hc)).trans hc
      have hst := hid (HS.out k hlt)
      obtain ⟨x0, x1⟩ := HA.out k hlt
      have hlen := HL.out k hk
      generalize xs.getD k 0 = X at *
      clear hc
      go_wp2_with (at_builtin; refine wpList_push _ rfl _ _ 22 rfl _ 5 .u8 0 1 Try.underlying22 Try.info5 _ _ rfl hown X rfl (by omega) (by decide) ?_)
      intro v1 w1 hown1 hb1
      go_wp2
      go_roundw
      case rel => exact ⟨k + 1, by omega, by go_num, by rw [hst.out]; exact hown1, hb.trans hb1⟩
      case measure => simp [intOf]; omega
    · obtain rfl : k = n := by omega
      rw [HE.out] at hown
      have hc := Own.conv Try.underlying22 Try.underlying5 Try.underlying9 hown
      go_wp2
      go_ret
      exact ⟨rfl, hb⟩

set_option maxRecDepth 100000 in
set_option maxHeartbeats 800000 in
theorem impl_putCodes (v : Value) (cs ss : List Int) (w : World) (h0 : cs.length ≤ 1048576) (h1 : ss.length ≤ 1048576) (hv : CV w v cs ss) :
    Calls Try.prog 22 #[v] w fun e w' => e = .returned (.string (if rightC cs ss = true then strOfNums (cs ++ ss) else ⟨#[]⟩)) ∧ Below w.heap.size w w' := by
  obtain ⟨a0, c0, a1, c1, rfl, u0, u1⟩ := hv
  have HB := hid ((Below.refl w.heap.size w).alloc (Nat.le_refl _) (.cells #[.slice a0 cs.length c0, .slice a1 ss.length c1] 26))
  have HT := hid (Two.new w (.slice a0 cs.length c0) (.slice a1 ss.length c1) 26)
  have HK := hid (fun q (hq : Below w.heap.size w q) => impl_ok (.agg #[.slice a0 cs.length c0, .slice a1 ss.length c1]) cs ss q h0 h1 ⟨a0, c0, a1, c1, rfl, u0.below (Nat.le_refl _) hq, u1.below (Nat.le_refl _) hq⟩)
  by_cases hr : rightC cs ss = true
  · have hb := right_byt hr
    have b0 := hb.2.1
    have b1 := hb.2.2.1
    clear hb
    have HU0 := hid (fun q (hq : Below w.heap.size w q) => impl_bytesOf a0 c0 cs q h0 (u0.below (Nat.le_refl _) hq) b0)
    have HU1 := hid (fun q (hq : Below w.heap.size w q) => impl_bytesOf a1 c1 ss q h1 (u1.below (Nat.le_refl _) hq) b1)
    rw [hr] at HK
    rw [if_pos hr, ← strOfNums_append]
    have z0 : (strOfNums cs).size ≤ 1048576 := by rw [strOfNums_size]; exact h0
    have z1 : (strOfNums ss).size ≤ 1048576 := by rw [strOfNums_size]; exact h1
    clear u0 u1 b0 b1 hr
    generalize strOfNums cs = S0 at *
    generalize strOfNums ss = S1 at *
    go_enter Try.func22, Try.ntmps22
    go_wp2_with fail
    refine (HK.out _ HB.out).mono ?_
    generalize w.alloc (.cells #[.slice a0 cs.length c0, .slice a1 ss.length c1] 26) = wa at *
    rintro e w1 ⟨rfl, hb1⟩
    have B1 := hid (HB.out.trans (hb1.mono HB.out.size))
    have T1 := hid (HT.out.below hb1 HT.out.lt)
    have HTC := hid (fun q (hq : Below w1.heap.size w1 q) => (T1.out.below hq T1.out.lt).cells)
    obtain ⟨q0, q1, q2, q3⟩ := T1.out.cells
    clear hb1 HT HB HK
    go_wp2_with fail
    go_region_with (first
      | (go_at_call 52; have hX := hcA; refine (HU1.out _ ?_).mono ?_; · first | exact B1.out.trans (hcA.mono B1.out.size) | exact B1.out.trans ((hcA.trans ((Below.refl _ _).drew.mono hcA.size)).mono B1.out.size)
         rintro e w3 ⟨rfl, hb3⟩
         have hcB : Below w1.heap.size w1 w3 := by first | exact hcA.trans (hb3.mono hcA.size) | exact hcA.trans ((Below.trans (Below.refl _ _).drew hb3).mono hcA.size)
         obtain ⟨f0, f1, f2, f3⟩ := HTC.out _ hcB)
      | (go_at_call 52; refine (HU0.out _ ?_).mono ?_; · first | exact B1.out | exact B1.out.trans ((Below.refl _ _).drew.mono B1.out.size)
         rintro e w2 ⟨rfl, hb2⟩
         have hcA : Below w1.heap.size w1 w2 := by first | exact hb2 | exact Below.trans (Below.refl _ _).drew hb2
         obtain ⟨e0, e1, e2, e3⟩ := HTC.out _ hcA))
    all_goals
      have HBF := hid (B1.out.trans (hcB.mono B1.out.size))
      clear hcA hcB hb2 hb3
      go_wp2_with fail
      go_ret
      exact ⟨rfl, HBF.out⟩
  · have hr' : rightC cs ss = false := by simpa using hr
    rw [hr'] at HK
    rw [if_neg hr]
    clear u0 u1 hr hr'
    go_enter Try.func22, Try.ntmps22
    go_wp2_with fail
    refine (HK.out _ HB.out).mono ?_
    generalize w.alloc (.cells #[.slice a0 cs.length c0, .slice a1 ss.length c1] 26) = wa at *
    rintro e w1 ⟨rfl, hb1⟩
    have B1 := hid (HB.out.trans (hb1.mono HB.out.size))
    clear hb1 HT HB HK
    go_wp2_with fail
    go_ret
    exact ⟨rfl, B1.out⟩

set_option maxRecDepth 100000 in
set_option maxHeartbeats 1600000 in
theorem spec_putCodes (v : Value) (cs ss : List Int) (w : World) (h0 : cs.length ≤ 1048576) (h1 : ss.length ≤ 1048576) (hv : CV w v cs ss) :
    Calls Try.prog 23 #[v] w fun e w' => e = .returned (.string (if rightC cs ss = true then strOfNums (cs ++ ss) else ⟨#[]⟩)) ∧ Below w.heap.size w w' := by
  obtain ⟨a0, c0, a1, c1, rfl, u0, u1⟩ := hv
  have HB := hid ((Below.refl w.heap.size w).alloc (Nat.le_refl _) (.cells #[.slice a0 cs.length c0, .slice a1 ss.length c1] 26))
  have HT := hid (Two.new w (.slice a0 cs.length c0) (.slice a1 ss.length c1) 26)
  have HK := hid (fun q (hq : Below w.heap.size w q) => spec_ok (.agg #[.slice a0 cs.length c0, .slice a1 ss.length c1]) cs ss q h0 h1 ⟨a0, c0, a1, c1, rfl, u0.below (Nat.le_refl _) hq, u1.below (Nat.le_refl _) hq⟩)
  by_cases hr : rightC cs ss = true
  · obtain ⟨l0, b0, b1, l1, l2⟩ := right_byt hr
    rw [hr] at HK
    rw [if_pos hr]
    have HS0 := hid (fun k (h : k < cs.length) => take_next cs k h)
    have HS1 := hid (fun k (h : k < ss.length) => take_next ss k h)
    have HE0 := hid (List.take_length (l := cs))
    have HE1 := hid (List.take_length (l := ss))
    have HL0 := hid (fun k (h : k ≤ cs.length) => List.length_take_of_le h)
    have HL1 := hid (fun k (h : k ≤ ss.length) => List.length_take_of_le h)
    have HLC := hid l0
    have HA0 := hid b0
    have HA1 := hid b1
    have HU0 := hid u0
    have HU1 := hid u1
    unfold Byt at HA0 HA1
    obtain ⟨S, hS⟩ : ∃ S : Nat, S = ss.length := ⟨_, rfl⟩
    rw [← hS] at HB HT HK HS1 HE1 HL1 HA1 HU1 l1 l2
    rw [l0] at HB HT HK HS0 HE0 HL0 HA0 HU0
    rw [l0, ← hS]
    clear u0 u1 b0 b1 hr hS h0 h1 l0
    go_enter Try.func23, Try.ntmps23
    go_wp2_with fail
    refine (HK.out _ HB.out).mono ?_
    generalize w.alloc (.cells #[.slice a0 16 c0, .slice a1 S c1] 26) = wa at *
    rintro e w1 ⟨rfl, hb1⟩
    have B1 := hid (HB.out.trans (hb1.mono HB.out.size))
    have T1 := hid (HT.out.below hb1 HT.out.lt)
    have hlt1 := T1.out.lt
    clear hb1 HT HB HK
    go_wp2_with fail
    go_loopw [3, 4] (fun v i wr => ∃ k : Nat, k ≤ 16 ∧ i = .int .i64 k ∧ Own wr w1.heap.size 5 .u8 v (cs.take k) ∧ Below w1.heap.size w1 wr) (fun _ i _ => 16 - (intOf i).toNat)
    case atStart => exact ⟨0, by omega, rfl, Own.empty _ _ _ _ (Nat.le_refl _), (Below.refl _ _).alloc (Nat.le_refl _) _⟩
    case round =>
      obtain ⟨k, hk, rfl, hown, hb⟩ := hrel
      obtain ⟨q0, q1, q2, q3⟩ := (T1.out.below hb T1.out.lt).cells
      by_cases hlt : k < 16
      · have hlt' : (k : Int) < 16 := by omega
        obtain ⟨b, off, rfl, hc⟩ := HU0.out.2 k hlt
        have hcr : wr.cell? ⟨b, off + k, none⟩ = some (.int .i64 (cs.getD k 0)) := ((B1.out.trans (hb.mono B1.out.size)).cell (p := ⟨b, off + k, none⟩) (World.block_lt_of_cell? w _ hc)).trans hc
        have hst := hid (HS0.out k hlt)
        obtain ⟨x0, x1⟩ := HA0.out k hlt
        have hlen := HL0.out k hk
        generalize cs.getD k 0 = X at *
        clear hc
        go_wp2_with (at_builtin; refine wpList_push _ rfl _ _ 22 rfl _ 5 .u8 0 1 Try.underlying22 Try.info5 _ _ rfl hown X rfl (by omega) (by decide) ?_)
        intro v1 w2 hown1 hb2
        go_wp2
        go_roundw
        case rel => exact ⟨k + 1, by omega, by go_num, by rw [hst.out]; exact hown1, hb.trans hb2⟩
        case measure => simp [intOf]; omega
      · have hk16 : k = 16 := by omega
        have hge : ¬ (k : Int) < 16 := by omega
        rw [hk16, HE0.out] at hown
        clear hk16 hk hlt
        have B2 := hid (B1.out.trans (hb.mono B1.out.size))
        have T2 := hid (T1.out.below hb T1.out.lt)
        have OW := hid hown
        have hwr := hb.size
        clear hb hown q0 q1 q2 q3
        go_wp2
        go_loopw [3, 5] (fun v i wq => ∃ k : Nat, k ≤ S ∧ i = .int .i64 k ∧ Own wq w1.heap.size 5 .u8 v (cs ++ ss.take k) ∧ Below w1.heap.size wr wq) (fun _ i _ => S - (intOf i).toNat)
        case atStart => exact ⟨0, by omega, rfl, by simpa using OW.out, Below.refl _ _⟩
        case round =>
          obtain ⟨k, hk, rfl, hown, hb⟩ := hrel
          obtain ⟨q0, q1, q2, q3⟩ := (T2.out.below hb hlt1).cells
          by_cases hlt : k < S
          · have hlt' : (k : Int) < (S : Int) := by omega
            obtain ⟨b, off, rfl, hc⟩ := HU1.out.2 k hlt
            have hcr : wr.cell? ⟨b, off + k, none⟩ = some (.int .i64 (ss.getD k 0)) := ((B2.out.trans (hb.mono B1.out.size)).cell (p := ⟨b, off + k, none⟩) (World.block_lt_of_cell? w _ hc)).trans hc
            have hst := hid (HS1.out k hlt)
            obtain ⟨x0, x1⟩ := HA1.out k hlt
            have hlen : (cs ++ ss.take k).length < 1000000000000 := by rw [List.length_append, HLC.out, HL1.out k hk]; omega
            generalize ss.getD k 0 = X at *
            clear hc
            go_wp2_with (at_builtin; refine wpList_push _ rfl _ _ 22 rfl _ 5 .u8 0 1 Try.underlying22 Try.info5 _ _ rfl hown X rfl hlen (by decide) ?_)
            intro v1 w2 hown1 hb2
            go_wp2
            go_roundw
            case rel => exact ⟨k + 1, by omega, by go_num, by rw [hst.out]; exact hown1, hb.trans hb2⟩
            case measure => simp [intOf]; omega
          · obtain rfl : k = S := by omega
            rw [HE1.out] at hown
            have hc := Own.conv Try.underlying22 Try.underlying5 Try.underlying9 hown
            have B3 := hid (B2.out.trans (hb.mono B1.out.size))
            go_wp2
            go_ret
            exact ⟨rfl, B3.out⟩
  · have hr' : rightC cs ss = false := by simpa using hr
    rw [hr'] at HK
    rw [if_neg hr]
    clear u0 u1 hr hr'
    go_enter Try.func23, Try.ntmps23
    go_wp2_with fail
    refine (HK.out _ HB.out).mono ?_
    generalize w.alloc (.cells #[.slice a0 cs.length c0, .slice a1 ss.length c1] 26) = wa at *
    rintro e w1 ⟨rfl, hb1⟩
    have B1 := hid (HB.out.trans (hb1.mono HB.out.size))
    clear hb1 HT HB HK
    go_wp2_with fail
    go_ret
    exact ⟨rfl, B1.out⟩

end Go.Proofs.Ytmdmolofiblbmaa
