/- Contracts of ModelStart, of the program and of the specification. -/
import Derived.Test.YtckpdmgmeolepaaRp
import Derived.Test.YtckpdmgmeolepaaWf
namespace Go.Proofs.Ytckpdmgmeolepaa
open Go.RowKit
set_option linter.unusedVariables false

theorem own_ge' {w : World} {base : Nat} {e : TypeId} {k : IntKind} {a : Addr} {n c : Nat} {xs : List Int} (h : Own w base e k (.slice (some a) n c) xs) : base ≤ a.block := h.ge.1
/-- What ModelStart answers. -/
def msB (n : Int) : Bool := decide (0 ≤ n ∧ n ≤ 1200)
def msL (n : Int) : List Int := if 0 ≤ n ∧ n ≤ 1200 then List.replicate n.toNat 2048 else []

set_option maxRecDepth 100000 in
set_option maxHeartbeats 800000 in
theorem impl_modelStart (n : Int) (w : World) (h0 : -9223372036854775808 ≤ n) (h1 : n ≤ 9223372036854775807) :
    Calls Try.prog 29 #[.int .i64 n] w fun e w' => ∃ v, e = .returned (.tuple #[.agg #[v], .bool (msB n)]) ∧ Own w' w.heap.size 3 .i64 v (msL n) ∧ Below w.heap.size w w' := by
  unfold msB msL
  have B0 := hid ((Below.refl w.heap.size w).alloc (Nat.le_refl _) (.cells #[.slice none 0 0] 40))
  by_cases a1 : n < 0
  · rw [decide_eq_false (by omega), if_neg (by omega)]
    go_enter Try.func29, Try.ntmps29
    go_wp2_with fail
    refine bodyPost_ret (v := .tuple #[.agg #[.slice none 0 0], .bool false]) (by simp [results, Try.results29, go_sem]) rfl ?_
    exact ⟨_, rfl, Own.nil _ _ _ _ B0.out.size, B0.out⟩
  · by_cases a2 : 1200 < n
    · rw [decide_eq_false (by omega), if_neg (by omega)]
      go_enter Try.func29, Try.ntmps29
      go_wp2_with fail
      refine bodyPost_ret (v := .tuple #[.agg #[.slice none 0 0], .bool false]) (by simp [results, Try.results29, go_sem]) rfl ?_
      exact ⟨_, rfl, Own.nil _ _ _ _ B0.out.size, B0.out⟩
    · rw [decide_eq_true (by omega), if_pos (by omega)]
      obtain ⟨k, rfl⟩ := Int.eq_ofNat_of_zero_le (show 0 ≤ n by omega)
      have hk : k ≤ 1200 := by omega
      rw [Int.toNat_natCast]
      have HR := hid (fun g q hg => repeat_one g k 2048 q hk hg)
      obtain ⟨n1, n2, n3⟩ := new_two w [.slice none 0 0] [.int .i64 2048] 40 3
      have N1 := hid n1
      have N2 := hid n2
      have N3 := hid n3
      clear a1 a2 h0 h1 n1 n2 n3
      go_enter Try.func29, Try.ntmps29
      go_wp2_with fail
      refine (HR.out _ _ N2.out).mono ?_
      generalize (w.alloc (.cells #[.slice none 0 0] 40)).alloc (.cells #[.int .i64 2048] 3) = w0 at *
      rintro e w1 ⟨v, rfl, ho, hb⟩
      obtain ⟨ao, cap, rfl⟩ := ho.shape
      have M1 := hid (N1.out.below hb N1.out.lt)
      have M3 := hid (N3.out.trans (hb.mono N3.out.size))
      have HO : Hid (Own w1 (w.heap.size + 1) 3 .i64 _ _) := ho.lower (by have := N2.out.lt; omega)
      have r0 := M1.out.cell (i := 0) rfl
      have y0 := M1.out.free 0
      clear ho hb N1 N2 N3
      go_wp2_with fail
      refine bodyPost_ret (v := .tuple #[.agg #[.slice ao (List.replicate k (2048 : Int)).length cap], .bool true]) (by simp [results, Try.results29, go_sem, r0]) rfl ?_
      exact ⟨_, rfl, (HO.out.setCell_below (a := ⟨w.heap.size, 0, none⟩) (Nat.lt_succ_self _) _).lower (Nat.le_succ _), M3.out.setCell (p := ⟨w.heap.size, 0, none⟩) (Nat.le_refl _) _⟩

set_option maxRecDepth 100000 in
set_option maxHeartbeats 800000 in
theorem spec_modelStart (n : Int) (w : World) (h0 : -9223372036854775808 ≤ n) (h1 : n ≤ 9223372036854775807) :
    Calls Try.prog 28 #[.int .i64 n] w fun e w' => ∃ v, e = .returned (.tuple #[.agg #[v], .bool (msB n)]) ∧ Own w' w.heap.size 3 .i64 v (msL n) ∧ Below w.heap.size w w' := by
  have HI := hid (fun q => spec_in n 0 1200 q)
  have B0 := hid ((Below.refl w.heap.size w).alloc (Nat.le_refl _) (.cells #[.slice none 0 0] 40))
  unfold msB msL
  by_cases a : 0 ≤ n ∧ n ≤ 1200
  · rw [decide_eq_true a] at HI ⊢
    rw [if_pos a]
    obtain ⟨k, rfl⟩ := Int.eq_ofNat_of_zero_le (show 0 ≤ n by omega)
    have hk : k ≤ 1200 := by omega
    rw [Int.toNat_natCast]
    obtain ⟨n1, n2, n3⟩ := new_two w [.slice none 0 0] [.slice none 0 0] 40 40
    have N1 := hid n1
    have N2 := hid n2
    have N3 := hid n3
    clear a h0 h1 n1 n2 n3 B0
    go_enter Try.func28, Try.ntmps28
    go_wp2_with fail
    refine (HI.out _).mono ?_
    rintro e w1 ⟨rfl, rfl⟩
    go_wp2_with fail
    go_loopw [5] (fun i wr => ∃ (j : Nat) (v : Value), j ≤ k ∧ i = .int .i64 j ∧ Blk wr (w.heap.size + 1) [v] 40 ∧ Blk wr w.heap.size [.slice none 0 0] 40 ∧ Own wr (w.heap.size + 2) 3 .i64 v (List.replicate j 2048) ∧ Below w.heap.size w wr) (fun i _ => k - (intOf i).toNat)
    case atStart => exact ⟨0, _, by omega, rfl, N2.out, N1.out, Own.nil _ _ _ _ N2.out.lt, N3.out⟩
    case round =>
      obtain ⟨j, v, hj, rfl, hA, hR, hO, hB⟩ := hrel
      obtain ⟨ao, cap, rfl⟩ := hO.shape
      have HA := hid hA
      have HR := hid hR
      have HO := hid hO
      have HB := hid hB
      have q0 := hA.cell (i := 0) rfl
      have z0 := hA.free 0
      have r0 := hR.cell (i := 0) rfl
      have y0 := hR.free 0
      clear hA hR hO hB N1 N2 N3
      have hrl := List.length_replicate (n := j) (a := (2048 : Int))
      by_cases hlt : j < k
      · have hlt' : (j : Int) < (k : Int) := by omega
        have hlen : (List.replicate j (2048 : Int)).length < 1000000000000 := by rw [hrl]; omega
        have HRS := hid (List.replicate_succ' (n := j) (a := (2048 : Int)))
        clear hrl
        generalize List.replicate j (2048 : Int) = RJ at *
        go_wp2_with (at_builtin; refine wpList_push _ rfl _ _ 25 rfl _ 3 .i64 0 8 Try.underlying25 Try.info3 _ _ rfl HO.out 2048 rfl hlen (by decide) ?_)
        intro v1 w1 hown1 hb1
        obtain ⟨ao1, cap1, rfl⟩ := hown1.shape
        have HA1 := hid (HA.out.below hb1 (by omega))
        have HR1 := hid (HR.out.below hb1 (by omega))
        have HO1 := hid hown1
        have HB1 := hid (HB.out.trans (hb1.mono (by omega)))
        have q1 := HA1.out.cell (i := 0) rfl
        have z1 := HA1.out.free 0
        clear hown1 hb1
        go_wp2_with fail
        go_roundw
        case rel =>
          refine ⟨j + 1, _, by omega, by go_num, HA1.out.set 0 _, HR1.out.other (by show w.heap.size ≠ w.heap.size + 1; omega) _, ?_, HB1.out.setCell (p := ⟨w.heap.size + 1, 0, none⟩) (Nat.le_succ _) _⟩
          rw [HRS.out, show RJ.length + 1 = (RJ ++ [2048]).length by simp]
          exact HO1.out.setCell_below (a := ⟨w.heap.size + 1, 0, none⟩) (by show w.heap.size + 1 < w.heap.size + 2; omega) _
        case measure => simp [intOf]; omega
      · obtain rfl : j = k := by omega
        clear hrl hlt hj
        go_wp2_with fail
        refine bodyPost_ret (v := .tuple #[.agg #[.slice ao (List.replicate j (2048 : Int)).length cap], .bool true]) (by simp [results, Try.results28, go_sem, r0]) rfl ?_
        exact ⟨_, rfl, (HO.out.setCell_below (a := ⟨w.heap.size, 0, none⟩) (by show w.heap.size < w.heap.size + 2; omega) _).lower (by omega), HB.out.setCell (p := ⟨w.heap.size, 0, none⟩) (Nat.le_refl _) _⟩
  · rw [decide_eq_false a] at HI ⊢
    rw [if_neg a]
    go_enter Try.func28, Try.ntmps28
    go_wp2_with fail
    refine (HI.out _).mono ?_
    rintro e w1 ⟨rfl, rfl⟩
    go_wp2_with fail
    refine bodyPost_ret (v := .tuple #[.agg #[.slice none 0 0], .bool false]) (by simp [results, Try.results28, go_sem]) rfl ?_
    exact ⟨_, rfl, Own.nil _ _ _ _ B0.out.size, B0.out⟩

set_option maxHeartbeats 800000 in
theorem mark_model (base : Nat) (v : Value) (ys : List Int) (w : World) (hn : ys.length ≤ 1000000000) (hb0 : base ≤ w.heap.size) (ho : Own w base 3 .i64 v ys) :
    Calls Try.prog 30 #[.agg #[v], .int .i64 1] w fun e w' => e = .returned (.int .i64 ((ys.length : Int) + 1)) ∧ Own w' base 3 .i64 v (marks ys.length) ∧ Below base w w' ∧ ∀ b l t, Blk w b l t → (∀ (a : Addr) n c, v = .slice (some a) n c → a.block ≠ b) → Blk w' b l t := by
  obtain ⟨ao, cap, rfl⟩ := ho.shape
  have HM := hid (fun q ho => mark_any base (.slice ao ys.length cap) ys q hn ho)
  have B0 := hid ((Below.refl base w).alloc hb0 (.cells #[.slice ao ys.length cap] 40))
  have HO := hid (ho.alloc (.cells #[.slice ao ys.length cap] 40))
  have hge : Hid (∀ (a : Addr) n c, (Value.slice ao ys.length cap) = .slice (some a) n c → base ≤ a.block) := fun a n c h => by
    rw [h] at ho
    exact own_ge' ho
  clear ho
  generalize ys.length = L at *
  go_enter Try.func30, Try.ntmps30
  go_wp2_with fail
  refine (HM.out _ HO.out).mono ?_
  rintro e w1 ⟨rfl, ho1, ht1⟩
  have HO1 := hid ho1
  have HB1 := hid (B0.out.trans (ht1.below hge.out (Nat.le_trans hb0 (by simp))))
  have HK1 : Hid (∀ b l t, Blk w b l t → (∀ (a : Addr) n c, (Value.slice ao L cap) = .slice (some a) n c → a.block ≠ b) → Blk w1 b l t) := fun b l t hb hne => by
    have hb0 := hb.below ((Below.refl w.heap.size w).alloc (Nat.le_refl _) (.cells #[.slice ao L cap] 40)) hb.lt
    rcases ht1 with rfl | ⟨g, n, c, e, he⟩
    · exact hb0
    · exact hb0.ef he (fun h => hne _ _ _ e h.symm)
  clear ho1 ht1
  go_wp2_with fail
  go_ret
  exact ⟨rfl, HO1.out, HB1.out, HK1.out⟩
set_option maxHeartbeats 800000 in
theorem held_model (v : Value) (n : Nat) (w : World) (hn : n ≤ 1000000000) (h : Vw w v (marks n)) :
    Calls Try.prog 31 #[.agg #[v], .int .i64 1] w fun e w' => e = .returned (.int .i64 ((n : Int) + 1)) ∧ Below w.heap.size w w' := by
  have HH := hid (fun q hq => held_own v n q hn (h.below (Nat.le_refl _) hq))
  have B0 := hid ((Below.refl w.heap.size w).alloc (Nat.le_refl _) (.cells #[v] 40))
  obtain ⟨ao, cap, rfl, _, _⟩ := h
  have h0 : ¬ ((n : Int) + 1 < 0) := by omega
  generalize (marks n).length = L at *
  go_enter Try.func31, Try.ntmps31
  go_wp2_with fail
  refine (HH.out _ B0.out).mono ?_
  rintro e w1 ⟨rfl, rfl⟩
  go_wp2_with fail
  go_ret
  exact ⟨rfl, B0.out⟩

theorem msL_len (n : Int) : (msL n).length ≤ 1200 := by
  unfold msL
  split
  · simp
    omega
  · simp

set_option maxRecDepth 100000 in
set_option maxHeartbeats 1600000 in
theorem law_modelStart (x : Int) (w : World) (h0 : -9223372036854775808 ≤ x) (h1 : x ≤ 9223372036854775807) :
    Calls Try.prog 8 #[.int .i64 x] w fun e w' => e = .returned (.bool true) ∧ Below w.heap.size w w' := by
  have HS := hid (fun q => spec_modelStart x q h0 h1)
  have HI := hid (fun q => impl_modelStart x q h0 h1)
  have hl := msL_len x
  generalize msL x = RL at *
  generalize msB x = RB at *
  have hFF : (RB != RB) = false := by simp
  have HQ := hid (fun v u q h1 h2 => eq_model v u RL q (by omega) h1 h2)
  have HM2 := hid (fun B v q h0 ho => mark_model B v RL q (by omega) h0 ho)
  have HH2 := hid (fun v q h => held_model v RL.length q (by omega) h)
  have hqq : ¬ ((RL.length : Int) + 1 < 0) := by omega
  clear hl h0 h1
  generalize RL.length = L at *
  go_enter Try.func8, Try.ntmps8
  go_wp2_with fail
  refine (HS.out w).mono ?_
  rintro e w1 ⟨y0, rfl, hy0, hb1⟩
  obtain ⟨ya, yc, rfl⟩ := hy0.shape
  have B1 := hid (hb1.alloc hb1.size (.cells #[.slice ya RL.length yc] 40))
  have A1 := hid (Blk.new w1 [.slice ya RL.length yc] 40)
  have Y1 := hid (hy0.vw.below (Nat.le_refl _) ((Below.refl w1.heap.size w1).alloc (Nat.le_refl _) (.cells #[.slice ya RL.length yc] 40)))
  clear hy0 hb1
  go_wp2_with fail
  refine (HI.out _).mono ?_
  generalize w1.alloc (.cells #[.slice ya RL.length yc] 40) = w2 at *
  generalize w1.heap.size = GA at *
  rintro e w3 ⟨g0, rfl, hg0, hb3⟩
  obtain ⟨ga, gc, rfl⟩ := hg0.shape
  have NB := hid ((Below.refl w3.heap.size w3).alloc (Nat.le_refl _) (.cells #[.slice ga RL.length gc] 40))
  have C4 := hid (hb3.alloc hb3.size (.cells #[.slice ga RL.length gc] 40))
  have A4 := hid (A1.out.below C4.out A1.out.lt)
  have Y4 := hid (Y1.out.below (Nat.le_refl _) C4.out)
  have K4 := hid (Blk.new w3 [.slice ga RL.length gc] 40)
  have G4 := hid (hg0.alloc (.cells #[.slice ga RL.length gc] 40))
  have B4 := hid (B1.out.trans (C4.out.mono B1.out.size))
  have A3 := A1.out.below hb3 A1.out.lt
  have a3 := A3.cell (i := 0) rfl
  have hlt3 : GA < w3.heap.size := A3.lt
  have a4 := A4.out.cell (i := 0) rfl
  have hne : ¬ GA = w3.heap.size := Nat.ne_of_lt A3.lt
  have hne' : ¬ w3.heap.size = GA := fun e => hne e.symm
  have hgl : Hid (∀ (a : Addr) n c, (Value.slice ga RL.length gc) = .slice (some a) n c → a.block < w3.heap.size) := fun a n c h => by
    rw [h] at hg0
    exact hg0.ge.2
  clear hg0 hb3 NB A3
  go_wp2_with fail
  refine (HQ.out _ _ _ G4.out.vw Y4.out).mono ?_
  generalize w3.alloc (.cells #[.slice ga RL.length gc] 40) = w4 at *
  generalize w3.heap.size = GB at *
  clear a3 hne hne' hlt3 a4
  rintro e w5 ⟨rfl, hb5⟩
  have C5 := hid (C4.out.trans (hb5.mono C4.out.size))
  have K5 := hid (K4.out.below hb5 K4.out.lt)
  have G5 := hid (G4.out.below hb5)
  have k5 := K5.out.cell (i := 0) rfl
  clear hb5 C4 K4 G4
  go_wp2_with fail
  refine (HM2.out w2.heap.size _ w5 C5.out.size G5.out).mono ?_
  rintro e w6 ⟨rfl, ho6, hb6, hk6⟩
  have C6 := hid (C5.out.trans hb6)
  have K6 := hid (hk6 GB _ _ K5.out (fun a n c h => by
    have := hgl.out a n c h
    omega))
  have A6 := hid (A1.out.below C6.out A1.out.lt)
  have Y6 := hid (Y1.out.below (Nat.le_refl _) C6.out)
  have G6 := hid ho6
  have k6 := K6.out.cell (i := 0) rfl
  clear ho6 hb6 hk6 C5 K5 G5 k5
  go_wp2_with fail
  refine (HH2.out _ w6 G6.out.vw).mono ?_
  rintro e w7 ⟨rfl, hb7⟩
  have C7 := hid (C6.out.trans (hb7.mono C6.out.size))
  have K7 := hid (K6.out.below hb7 K6.out.lt)
  have A7 := hid (A6.out.below hb7 A6.out.lt)
  have Y7 := hid (Y6.out.below (Nat.le_refl _) hb7)
  have G7 := hid (G6.out.below hb7)
  clear hb7 C6 K6 G6 A6 Y6 k6
  go_wp2_with fail
  refine (HI.out w7).mono ?_
  rintro e w8 ⟨h0, rfl, hh0, hb8⟩
  obtain ⟨ha, hcp, rfl⟩ := hh0.shape
  have C8 := hid (C7.out.trans (hb8.mono C7.out.size))
  have K8 := hid (K7.out.below hb8 K7.out.lt)
  have A8 := hid (A7.out.below hb8 A7.out.lt)
  have NB9 := hid ((Below.refl w8.heap.size w8).alloc (Nat.le_refl _) (.cells #[.slice ha RL.length hcp] 40))
  have C9 := hid (C8.out.trans (NB9.out.mono C8.out.size))
  have K9 := hid (K8.out.below NB9.out K8.out.lt)
  have Y9 := hid ((Y7.out.below (Nat.le_refl _) hb8).below (Nat.le_refl _) NB9.out)
  have G9 := hid ((G7.out.below hb8).below NB9.out)
  have H9 := hid (hh0.vw.below (Nat.le_refl _) NB9.out)
  have a8 := A8.out.cell (i := 0) rfl
  have hlt8 : GA < w8.heap.size := A8.out.lt
  have hne8 : ¬ GA = w8.heap.size := Nat.ne_of_lt A8.out.lt
  have hne8' : ¬ w8.heap.size = GA := fun e => hne8 e.symm
  have a9 := (A8.out.below NB9.out A8.out.lt).cell (i := 0) rfl
  clear hh0 hb8 C7 K7 A7 Y7 G7 C8 K8 NB9
  go_wp2_with fail
  refine (HQ.out _ _ _ H9.out Y9.out).mono ?_
  generalize w8.alloc (.cells #[.slice ha RL.length hcp] 40) = w9 at *
  clear a8 hlt8 hne8 hne8' a9
  rintro e w10 ⟨rfl, hb10⟩
  have C10 := hid (C9.out.trans (hb10.mono C9.out.size))
  have K10 := hid (K9.out.below hb10 K9.out.lt)
  have G10 := hid (G9.out.below hb10)
  have k10 := K10.out.cell (i := 0) rfl
  clear hb10 C9 K9 G9 H9 Y9
  go_wp2_with fail
  refine (HH2.out _ w10 G10.out.vw).mono ?_
  rintro e w11 ⟨rfl, hb11⟩
  have C11 := hid (C10.out.trans (hb11.mono C10.out.size))
  have B11 := hid (B1.out.trans (C11.out.mono B1.out.size))
  clear hb11
  go_wp2_with fail
  go_ret
  exact ⟨rfl, B11.out⟩
end Go.Proofs.Ytckpdmgmeolepaa
