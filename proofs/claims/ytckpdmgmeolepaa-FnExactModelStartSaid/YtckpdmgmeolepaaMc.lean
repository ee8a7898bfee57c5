/- Contracts of ModelOk, of the program and of the specification. -/
import Derived.Test.YtckpdmgmeolepaaMk
namespace Go.Proofs.Ytckpdmgmeolepaa
open Go.RowKit
set_option linter.unusedVariables false

/-- Is p a chance? -/
def isCh (p : Int) : Bool := decide (1 ≤ p ∧ p ≤ 4095)
theorem isCh_iff (p : Int) : isCh p = true ↔ 1 ≤ p ∧ p ≤ 4095 := by simp [isCh]

theorem spec_ch (p : Int) (w : World) :
    Calls Try.prog 47 #[.int .i64 p] w fun e w' => e = .returned (.bool (isCh p)) ∧ w = w' := by
  have HS := hid (spec_in p 1 4095 w)
  go_enter Try.func47, Try.ntmps47
  go_wp2_with fail
  refine HS.out.mono ?_
  rintro e w1 ⟨rfl, rfl⟩
  go_wp2_with fail
  go_ret
  exact ⟨ret_bool (by simp [isCh]), rfl⟩

theorem impl_ch (p : Int) (w : World) :
    Calls Try.prog 65 #[.int .i64 p] w fun e w' => e = .returned (.bool (isCh p)) ∧ w = w' := by
  by_cases h1 : 1 ≤ p <;> by_cases h2 : p < 4096
  all_goals
    go_enter Try.func65, Try.ntmps65
    go_wp2
    go_ret
    refine ⟨ret_bool ?_, rfl⟩
    simp [isCh]
    omega

/-- Do the first k numbers pass? -/
def passTo (f : Int → Bool) (xs : List Int) (k : Nat) : Prop := ∀ j, j < k → f (xs.getD j 0) = true
theorem pass_all {f : Int → Bool} {xs : List Int} (h : passTo f xs xs.length) : ∀ x ∈ xs, f x = true := by
  intro x hx
  obtain ⟨j, hj, rfl⟩ := List.getElem_of_mem hx
  have := h j hj
  rwa [List.getD_eq_getElem?_getD, List.getElem?_eq_getElem hj] at this
theorem pass_not {f : Int → Bool} {xs : List Int} {k : Nat} (hk : k < xs.length) (h : f (xs.getD k 0) = false) : ¬ ∀ x ∈ xs, f x = true := by
  intro hall
  have := hall _ (List.getElem_mem hk)
  rw [List.getD_eq_getElem?_getD, List.getElem?_eq_getElem hk] at h
  simp only [Option.getD_some] at h
  rw [h] at this
  cases this
set_option maxHeartbeats 800000 in
theorem are_chances (ao : Option Addr) (cap : Nat) (xs : List Int) (w : World) (hn : xs.length ≤ 1048576) (hv : View .i64 w ao xs.length xs) :
    Calls Try.prog 48 #[.slice ao xs.length cap] w fun e w' => e = .returned (.bool (decide (∀ x ∈ xs, isCh x = true))) ∧ w = w' := by
  have HV := hid hv
  have HF := hid (fun (y : Int) (q : World) => impl_ch y q)
  obtain ⟨R, hR⟩ : ∃ R, decide (∀ x ∈ xs, isCh x = true) = R := ⟨_, rfl⟩
  have HR := hid hR
  rw [hR]
  clear hR hv
  go_enter Try.func48, Try.ntmps48
  go_wp2_with fail
  go_loopw [7] (fun i wr => ∃ k : Nat, k ≤ xs.length ∧ i = .int .i64 k ∧ wr = w ∧ Hid (passTo isCh xs k)) (fun i _ => xs.length - (intOf i).toNat)
  case atStart => exact ⟨0, by omega, rfl, rfl, fun j hj => by omega⟩
  case round =>
    obtain ⟨k, hk, rfl, rfl, hp⟩ := hrel
    by_cases hlt : k < xs.length
    · obtain ⟨b, off, rfl, hc⟩ := HV.out.2 k hlt
      have hlt' : (k : Int) < (xs.length : Int) := by omega
      have HN := hid (fun h => pass_not (f := isCh) (k := k) hlt h)
      have HP := hid (fun (h : isCh (xs.getD k 0) = true) => (fun j hj => by
        by_cases e : j = k
        · rw [e]; exact h
        · exact hp.out j (by omega) : passTo isCh xs (k + 1)))
      have HK := HF.out (xs.getD k 0) wr
      generalize xs.getD k 0 = X at *
      cases hX : isCh X with
      | true =>
        rw [hX] at HK
        have HK2 := hid HK
        have HX := hid hX
        clear HK hX
        go_wp2_with fail
        refine HK2.out.mono ?_
        rintro e w1 ⟨rfl, rfl⟩
        go_wp2_with fail
        go_roundw
        case rel => exact ⟨k + 1, by omega, by go_num, by first | rfl | trivial, HP.out HX.out⟩
        case measure => simp [intOf]; omega
      | false =>
        rw [hX] at HK
        have HK2 := hid HK
        have HX := hid hX
        clear HK hX
        go_wp2_with fail
        refine HK2.out.mono ?_
        rintro e w1 ⟨rfl, rfl⟩
        go_wp2_with fail
        go_ret
        exact ⟨ret_bool (by rw [← HR.out]; exact (decide_eq_false (HN.out HX.out)).symm), rfl⟩
    · obtain rfl : k = xs.length := by omega
      have HE := hid (decide_eq_true (pass_all hp.out))
      clear hlt hk
      go_wp2_with fail
      go_ret
      exact ⟨ret_bool (by rw [← HR.out]; exact HE.out.symm), rfl⟩

/-- Is a model right? -/
def okM (xs : List Int) : Bool := decide (xs.length ≤ 1200 ∧ ∀ x ∈ xs, isCh x = true)

set_option maxHeartbeats 800000 in
theorem impl_modelOk (v : Value) (xs : List Int) (w : World) (h : Vw w v xs) :
    Calls Try.prog 26 #[.agg #[v]] w fun e w' => e = .returned (.bool (okM xs)) ∧ Below w.heap.size w w' := by
  obtain ⟨ao, cap, rfl, hv, hc⟩ := h
  by_cases h1 : xs.length ≤ 1200
  · have HA := hid (fun q (hq : Below w.heap.size w q) => are_chances ao cap xs q (by omega) (hv.below (Nat.le_refl _) hq))
    have hok : okM xs = decide (∀ x ∈ xs, isCh x = true) := by
      unfold okM
      by_cases h2 : ∀ x ∈ xs, isCh x = true
      · rw [decide_eq_true h2, decide_eq_true ⟨h1, h2⟩]
      · rw [decide_eq_false h2, decide_eq_false (fun h => h2 h.2)]
    rw [hok]
    generalize decide (∀ x ∈ xs, isCh x = true) = R at *
    have h1' : (xs.length : Int) ≤ 1200 := by omega
    have HB := hid ((Below.refl w.heap.size w).alloc (Nat.le_refl _) (.cells #[.slice ao xs.length cap] 40))
    clear hok hv hc h1
    generalize xs.length = n at *
    go_enter Try.func26, Try.ntmps26
    go_wp2_with fail
    refine (HA.out _ HB.out).mono ?_
    rintro e w1 ⟨rfl, rfl⟩
    go_wp2_with fail
    go_ret
    exact ⟨rfl, HB.out⟩
  · have hok : okM xs = false := by
      unfold okM
      rw [decide_eq_false (fun h => h1 h.1)]
    rw [hok]
    have h1' : ¬ (xs.length : Int) ≤ 1200 := by omega
    clear hok hv hc h1
    generalize xs.length = n at *
    go_enter Try.func26, Try.ntmps26
    go_wp2_with fail
    go_ret
    exact ⟨rfl, (Below.refl w.heap.size w).alloc (Nat.le_refl _) _⟩

set_option maxRecDepth 100000 in
set_option maxHeartbeats 800000 in
theorem spec_modelOk (v : Value) (xs : List Int) (w : World) (hn : xs.length ≤ 1048576) (h : Vw w v xs) :
    Calls Try.prog 24 #[.agg #[v]] w fun e w' => e = .returned (.bool (okM xs)) ∧ Below w.heap.size w w' := by
  obtain ⟨ao, cap, rfl, hv, hc⟩ := h
  have HV := hid hv
  have HF := hid (fun (y : Int) (q : World) => spec_ch y q)
  obtain ⟨R, hR⟩ : ∃ R, okM xs = R := ⟨_, rfl⟩
  have HR := hid hR
  rw [hR]
  have HA := hid (Blk.new w [.slice ao xs.length cap] 40)
  have HB := hid ((Below.refl w.heap.size w).alloc (Nat.le_refl _) (.cells #[.slice ao xs.length cap] 40))
  clear hR hv hc
  go_enter Try.func24, Try.ntmps24
  go_wp2_with fail
  go_loopw [3] (fun i wr => ∃ k : Nat, k ≤ xs.length ∧ i = .int .i64 k ∧ Blk wr w.heap.size [.slice ao xs.length cap] 40 ∧ Below w.heap.size w wr ∧ Hid (passTo isCh xs k)) (fun i _ => xs.length - (intOf i).toNat)
  case atStart => exact ⟨0, by omega, rfl, HA.out, HB.out, fun j hj => by omega⟩
  case round =>
    obtain ⟨k, hk, rfl, hA, hB, hp⟩ := hrel
    clear HA HB
    have HA := hid hA
    have HB := hid hB
    have q0 := hA.cell (i := 0) rfl
    clear hA hB
    by_cases hlt : k < xs.length
    · obtain ⟨b, off, rfl, hc⟩ := HV.out.2 k hlt
      have hcr : wr.cell? ⟨b, off + k, none⟩ = some (.int .i64 (xs.getD k 0)) := (HB.out.cell (p := ⟨b, off + k, none⟩) (World.block_lt_of_cell? w _ hc)).trans hc
      have hlt' : (k : Int) < (xs.length : Int) := by omega
      have HN := hid (fun h => pass_not (f := isCh) (k := k) hlt h)
      have HP := hid (fun (h : isCh (xs.getD k 0) = true) => (fun j hj => by
        by_cases e : j = k
        · rw [e]; exact h
        · exact hp.out j (by omega) : passTo isCh xs (k + 1)))
      have HK := HF.out (xs.getD k 0) wr
      generalize xs.getD k 0 = X at *
      clear hc
      cases hX : isCh X with
      | true =>
        rw [hX] at HK
        have HK2 := hid HK
        have HX := hid hX
        clear HK hX
        go_wp2_with fail
        refine HK2.out.mono ?_
        rintro e w1 ⟨rfl, rfl⟩
        go_wp2_with fail
        go_roundw
        case rel => exact ⟨k + 1, by omega, by go_num, HA.out, HB.out, HP.out HX.out⟩
        case measure => simp [intOf]; omega
      | false =>
        rw [hX] at HK
        have HK2 := hid HK
        have HX := hid hX
        clear HK hX
        go_wp2_with fail
        refine HK2.out.mono ?_
        rintro e w1 ⟨rfl, rfl⟩
        go_wp2_with fail
        go_ret
        exact ⟨ret_bool (by rw [← HR.out]; exact (decide_eq_false (fun h => HN.out HX.out h.2)).symm), HB.out⟩
    · obtain rfl : k = xs.length := by omega
      have HE := hid (pass_all hp.out)
      have HR2 : Hid (decide ((xs.length : Int) ≤ 1200) = R) := by
        rw [← HR.out]
        unfold okM
        show decide ((xs.length : Int) ≤ 1200) = _
        by_cases h1 : xs.length ≤ 1200
        · rw [decide_eq_true (show (xs.length : Int) ≤ 1200 by omega), decide_eq_true ⟨h1, HE.out⟩]
        · rw [decide_eq_false (show ¬ (xs.length : Int) ≤ 1200 by omega), decide_eq_false (fun h => h1 h.1)]
      clear hlt hk
      go_wp2_with fail
      go_ret
      exact ⟨ret_bool HR2.out, HB.out⟩

theorem new_three (w : World) (l m r : List Value) (t u x : TypeId) : Blk (((w.alloc (.cells l.toArray t)).alloc (.cells m.toArray u)).alloc (.cells r.toArray x)) w.heap.size l t ∧ Blk (((w.alloc (.cells l.toArray t)).alloc (.cells m.toArray u)).alloc (.cells r.toArray x)) (w.heap.size + 1) m u ∧ Blk (((w.alloc (.cells l.toArray t)).alloc (.cells m.toArray u)).alloc (.cells r.toArray x)) (w.heap.size + 1 + 1) r x ∧ Below w.heap.size w (((w.alloc (.cells l.toArray t)).alloc (.cells m.toArray u)).alloc (.cells r.toArray x)) := by
  have a0 := (Below.refl w.heap.size w).alloc (Nat.le_refl _) (.cells l.toArray t)
  have s0 : (w.alloc (.cells l.toArray t)).heap.size = w.heap.size + 1 := by simp
  have s1 : ((w.alloc (.cells l.toArray t)).alloc (.cells m.toArray u)).heap.size = w.heap.size + 1 + 1 := by simp
  have b0 := Blk.new w l t
  have b1 := Blk.new (w.alloc (.cells l.toArray t)) m u
  have b2 := Blk.new ((w.alloc (.cells l.toArray t)).alloc (.cells m.toArray u)) r x
  rw [s0] at b1
  rw [s1] at b2
  have e1 := (Below.refl (w.alloc (.cells l.toArray t)).heap.size (w.alloc (.cells l.toArray t))).alloc (Nat.le_refl _) (.cells m.toArray u)
  have e2 := (Below.refl ((w.alloc (.cells l.toArray t)).alloc (.cells m.toArray u)).heap.size ((w.alloc (.cells l.toArray t)).alloc (.cells m.toArray u))).alloc (Nat.le_refl _) (.cells r.toArray x)
  refine ⟨(b0.below e1 b0.lt).below e2 (by rw [s1]; omega), b1.below e2 b1.lt, b2, (a0.trans (e1.mono (by rw [s0]; omega))).trans (e2.mono (by rw [s1]; omega))⟩

set_option maxHeartbeats 800000 in
theorem to_model (v : Value) (xs : List Int) (w : World) (hn : xs.length ≤ 1048576) (h : Vw w v xs) :
    Calls Try.prog 25 #[.agg #[v]] w fun e w' => ∃ v', e = .returned (.agg #[v']) ∧ Own w' w.heap.size 3 .i64 v' xs ∧ Below w.heap.size w w' := by
  obtain ⟨ao, cap, rfl, hv, hc⟩ := h
  have HT := hid (fun q (hq : Below w.heap.size w q) => toInts ao xs.length cap xs q hn (hv.below (Nat.le_refl _) hq))
  clear hv hc
  generalize xs.length = n at *
  obtain ⟨n1, n2, n3, n4⟩ := new_three w [.slice ao n cap] [.slice none 0 0] [.slice none 0 0] 37 40 40
  have N2 := hid n2
  have N3 := hid n3
  have N4 := hid n4
  clear n1 n2 n3 n4
  go_enter Try.func25, Try.ntmps25
  go_wp2_with fail
  refine (HT.out _ N4.out).mono ?_
  generalize ((w.alloc (.cells #[.slice ao n cap] 37)).alloc (.cells #[.slice none 0 0] 40)).alloc (.cells #[.slice none 0 0] 40) = w0 at *
  rintro e w1 ⟨v', rfl, ho, hb1⟩
  obtain ⟨ao', cap', rfl⟩ := ho.shape
  have M2 := hid (N2.out.below hb1 N2.out.lt)
  have M3 := hid (N3.out.below hb1 N3.out.lt)
  have M4 := hid (N4.out.trans (hb1.mono N4.out.size))
  have HO : Hid (Own w1 (w.heap.size + 1 + 1 + 1) 3 .i64 (.slice ao' xs.length cap') xs) := ho.lower N3.out.lt
  have r0 := M2.out.cell (i := 0) rfl
  have y0 := M2.out.free 0
  have q0 := M3.out.cell (i := 0) rfl
  have z0 := M3.out.free 0
  clear ho hb1 N2 N3 N4
  go_wp2_with fail
  refine bodyPost_ret (v := .agg #[.slice ao' xs.length cap']) (by simp [results, Try.results25, go_sem, r0]) rfl ?_
  refine ⟨_, rfl, ?_, ?_⟩
  · exact ((HO.out.setCell_below (a := ⟨w.heap.size + 1 + 1, 0, none⟩) (Nat.lt_succ_self _) _).setCell_below (a := ⟨w.heap.size + 1, 0, none⟩) (by show w.heap.size + 1 < w.heap.size + 1 + 1 + 1; omega) _).lower (by omega)
  · exact (M4.out.setCell (p := ⟨w.heap.size + 1 + 1, 0, none⟩) (by show w.heap.size ≤ w.heap.size + 1 + 1; omega) _).setCell (p := ⟨w.heap.size + 1, 0, none⟩) (by show w.heap.size ≤ w.heap.size + 1; omega) _

set_option maxHeartbeats 800000 in
theorem eq_model (v u : Value) (xs : List Int) (w : World) (hn : xs.length ≤ 1048576) (h1 : Vw w v xs) (h2 : Vw w u xs) :
    Calls Try.prog 27 #[.agg #[v], .agg #[u]] w fun e w' => e = .returned (.bool true) ∧ Below w.heap.size w w' := by
  have HT := hid (fun q (hq : Below w.heap.size w q) => eq_own v u xs q hn (h1.below (Nat.le_refl _) hq) (h2.below (Nat.le_refl _) hq))
  clear h1 h2
  have HB := hid (((Below.refl w.heap.size w).alloc (Nat.le_refl _) (.cells #[v] 40)).alloc (by simp) (.cells #[u] 40))
  go_enter Try.func27, Try.ntmps27
  go_wp2_with fail
  refine (HT.out _ HB.out).mono ?_
  rintro e w1 ⟨rfl, hb1⟩
  have HB1 := hid (HB.out.trans (hb1.mono HB.out.size))
  clear hb1
  go_wp2_with fail
  go_ret
  exact ⟨rfl, HB1.out⟩

/-- What is left behind a list. -/
def lft (l n : Int) : Int := if l - n < 0 then -1 else l - n
set_option maxHeartbeats 800000 in
theorem sz_ints (ao : Option Addr) (n cap : Nat) (l : Int) (w : World) (hl : 0 ≤ l) (hl1 : l ≤ 1048576) (hn : n ≤ 9223372036854775807) :
    Calls Try.prog 46 #[.slice ao n cap, .int .i64 l] w fun e w' => e = .returned (.int .i64 (lft l n)) ∧ w = w' := by
  unfold lft
  by_cases h : l - n < 0
  · rw [if_pos h]
    go_enter Try.func46, Try.ntmps46
    go_wp2_with fail
    go_ret
    exact ⟨rfl, rfl⟩
  · rw [if_neg h]
    go_enter Try.func46, Try.ntmps46
    go_wp2_with fail
    go_ret
    exact ⟨rfl, rfl⟩
set_option maxHeartbeats 800000 in
theorem sz_model (ao : Option Addr) (n cap : Nat) (l : Int) (w : World) (hl : 0 ≤ l) (hl1 : l ≤ 1048576) (hn : n ≤ 9223372036854775807) :
    Calls Try.prog 23 #[.agg #[.slice ao n cap], .int .i64 l] w fun e w' => e = .returned (.int .i64 (lft l n)) ∧ Below w.heap.size w w' := by
  have HS := hid (fun q => sz_ints ao n cap l q hl hl1 hn)
  have hlf : lft l n = -1 ∨ 0 ≤ lft l n := by unfold lft; split <;> omega
  generalize lft l n = R at *
  rcases hlf with rfl | h
  · go_enter Try.func23, Try.ntmps23
    go_wp2_with fail
    refine (HS.out _).mono ?_
    rintro e w1 ⟨rfl, rfl⟩
    go_wp2_with fail
    go_ret
    exact ⟨rfl, (Below.refl w.heap.size w).alloc (Nat.le_refl _) _⟩
  · have h' : ¬ R < 0 := by omega
    go_enter Try.func23, Try.ntmps23
    go_wp2_with fail
    refine (HS.out _).mono ?_
    rintro e w1 ⟨rfl, rfl⟩
    go_wp2_with fail
    go_ret
    exact ⟨rfl, (Below.refl w.heap.size w).alloc (Nat.le_refl _) _⟩
end Go.Proofs.Ytckpdmgmeolepaa
