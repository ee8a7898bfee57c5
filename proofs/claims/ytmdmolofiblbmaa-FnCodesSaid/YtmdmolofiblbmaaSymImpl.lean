/- Contracts of the program's finding of a symbol: isBit, symAt. -/
import Derived.Test.YtmdmolofiblbmaaSymPlain
namespace Go.Proofs.Ytmdmolofiblbmaa
open Go.RowKit Go.Maps
set_option linter.unusedVariables false

theorem isBit_yes (x : Int) (h : Bit x) (w : World) : Calls Try.prog 58 #[.int .i64 x] w fun e w' => e = .returned (.bool true) ∧ w = w' := by
  rcases h with rfl | rfl
  all_goals
    go_enter Try.func58, Try.ntmps58
    go_wp2
    go_ret
    exact ⟨rfl, rfl⟩
theorem isBit_no (x : Int) (h : ¬ Bit x) (w : World) : Calls Try.prog 58 #[.int .i64 x] w fun e w' => e = .returned (.bool false) ∧ w = w' := by
  have h0 : (x == 0) = false := by simpa using fun e => h (.inl e)
  have h1 : (x == 1) = false := by simpa using fun e => h (.inr e)
  clear h
  go_enter Try.func58, Try.ntmps58
  go_wp2
  go_ret
  exact ⟨rfl, rfl⟩

theorem zero3 (w : World) : (zeroValue 3).run Try.prog w = .ok (.int .i64 0) w := by kernel_rfl
/-- What the map tells at a key. -/
theorem look_book {w : World} {C M : Nat} {ss : List Int} {K : List (Nat × Int)} (h : BookAt w C M ss K) (hK : ∀ x ∈ K, KeyOk x) (hP : K.Pairwise KLt) (L N : Int) (hL : (Lit.int .i64 L).wf = true) (hN : (Lit.int .i64 N).wf = true) :
    (∃ p, p < K.length ∧ (((kp K p).1 : Int) = L ∧ (kp K p).2 = N) ∧ (Instr.lookup 70 (.map (some M)) (.agg #[.int .i64 L, .int .i64 N]) true).run Try.prog w = .ok (.tuple #[.int .i64 (ss.getD p 0), .bool true]) w) ∨
    ((∀ p, p < K.length → ¬ (((kp K p).1 : Int) = L ∧ (kp K p).2 = N)) ∧ ∃ c, (Instr.lookup 70 (.map (some M)) (.agg #[.int .i64 L, .int .i64 N]) true).run Try.prog w = .ok (.tuple #[.int .i64 c, .bool false]) w) := by
  obtain ⟨v, ps, hrun, hv⟩ := h.2.look_ok law72 Try.underlying70 (zero3 w) (plainElem_int Try.underlying3 (by decide)) (key72 w L N hL hN)
  obtain ⟨c, rfl, hc, _⟩ := plainElem_int_inv Try.underlying3 hv
  by_cases hex : ∃ p, p < K.length ∧ (((kp K p).1 : Int) = L ∧ (kp K p).2 = N)
  · obtain ⟨p, hp, e1, e2⟩ := hex
    obtain ⟨g1, g2⟩ := mapGo_some w ss K hK hP p K.length (Nat.le_refl _) hp
    rw [e1, e2] at g1 g2
    have hc1 := congrArg Prod.fst hc
    rw [show mapTo ss K = mapGo ss K K.length from rfl, g2] at hc1
    have : c = ss.getD p 0 := by
      simp only [DataW.lit.injEq, Lit.int.injEq] at hc1
      exact hc1.2.symm
    refine .inl ⟨p, hp, ⟨e1, e2⟩, ?_⟩
    rw [hrun, show mapTo ss K = mapGo ss K K.length from rfl, g1, this]
  · have hno : ∀ p, p < K.length → ¬ (((kp K p).1 : Int) = L ∧ (kp K p).2 = N) := fun p hp e => hex ⟨p, hp, e⟩
    refine .inr ⟨hno, c, ?_⟩
    rw [hrun, show mapTo ss K = mapGo ss K K.length from rfl, mapGo_none w ss K hK L N hL hN K.length (Nat.le_refl _) hno]
theorem BookAt.map {w : World} {C M : Nat} {ss : List Int} {K : List (Nat × Int)} (h : BookAt w C M ss K) : w.cell? ⟨C, 0, none⟩ = some (.map (some M)) := by
  obtain ⟨⟨arr, h1, h2, h3, h4⟩, _⟩ := h
  exact (h1.cell 0).trans h3

set_option maxRecDepth 100000 in
set_option maxHeartbeats 1600000 in
theorem symAt_any (C M : Nat) (ss xs : List Int) (K : List (Nat × Int)) (ao : Option Addr) (cap i : Nat) (w : World) (hn : xs.length ≤ 1048576) (hi : i ≤ xs.length) (hK : ∀ x ∈ K, KeyOk x) (hP : K.Pairwise KLt) (hb : BookAt w C M ss K) (hx : View .i64 w ao xs.length xs) :
    Calls Try.prog 38 #[.pointer (some ⟨C, 0, none⟩), .slice ao xs.length cap, .int .i64 i] w fun e w' => ∃ r0 r1 : Int, e = .returned (.tuple #[.int .i64 r0, .int .i64 r1]) ∧ SymIs K ss xs i r0 r1 ∧ Below w.heap.size w w' := by
  have HB := hid ((Below.refl w.heap.size w).alloc (Nat.le_refl _) (.cells #[.int .i64 0, .int .i64 0] 69))
  have HT := hid (Two.new w (.int .i64 0) (.int .i64 0) 69)
  have HBK := hid hb
  have HX := hid hx
  have HK := hid hK
  have HP := hid hP
  clear hb hx hK hP
  go_enter Try.func38, Try.ntmps38
  go_wp2
  generalize w.alloc (.cells #[.int .i64 0, .int .i64 0] 69) = wa at *
  go_loopw [2] (fun iv wr => ∃ (j L : Nat), j ≤ xs.length ∧ L ≤ 16 ∧ iv = .int .i64 j ∧ Hid (j = i + L) ∧ Hid (BitsTo xs i L) ∧ Hid (NoneTo K xs i L) ∧ Hid (Two wr w.heap.size (.int .i64 L) (.int .i64 (nL xs i L)) 69) ∧ Hid (Below w.heap.size w wr)) (fun iv _ => xs.length - (intOf iv).toNat)
  case atStart => exact ⟨i, 0, hi, by omega, rfl, rfl, fun t ht => by omega, fun q hq hle => by have := (HK.out _ (kp_mem hq)).1; omega, HT.out, HB.out⟩
  case round =>
    obtain ⟨j, L, hj, hL, rfl, hji, hbits, hnone, hT, hB⟩ := hrel
    have hnb := nL_bd xs i L hbits.out
    have hp16 : (2 : Int) ^ L ≤ 65536 := by
      have := pow2_mono L (16 - L)
      rw [show L + (16 - L) = 16 by omega] at this
      exact this
    obtain ⟨q1, q2, q3, q4⟩ := hT.out.cells
    by_cases hc1 : j < xs.length
    · by_cases hc2 : L < 16
      · obtain ⟨b, off, rfl, hc⟩ := HX.out.2 j hc1
        have hcr : wr.cell? ⟨b, off + j, none⟩ = some (.int .i64 (xs.getD j 0)) := (hB.out.cell (p := ⟨b, off + j, none⟩) (World.block_lt_of_cell? w _ hc)).trans hc
        have hlt' : (j : Int) < (xs.length : Int) := by omega
        have hL' : (L : Int) < 16 := by omega
        by_cases hbit : Bit (xs.getD j 0)
        · have HI := hid (isBit_yes (xs.getD j 0) hbit wr)
          have HSU : Hid (nL xs i (L + 1) = 2 * nL xs i L + xs.getD j 0) := hid (by rw [nL_succ, ← hji.out])
          have HBT : Hid (BitsTo xs i (L + 1)) := hid (fun t ht => by
            by_cases e : t = L
            · rw [e, ← hji.out]; exact hbit
            · exact hbits.out t (by omega))
          have hx0 : 0 ≤ xs.getD j 0 ∧ xs.getD j 0 ≤ 1 := by rcases hbit with e | e <;> rw [e] <;> decide
          obtain ⟨x0, x1⟩ := hx0
          obtain ⟨n0, n1⟩ := hnb
          generalize xs.getD j 0 = X at *
          generalize nL xs i L = NL at *
          have nn : NL < 65536 := by omega
          clear hbit hc n1 hp16
          have hlt2 : w.heap.size < wr.heap.size := hT.out.lt
          go_wp2_with (go_at_call 58; refine HI.out.mono ?_; rintro e w1 ⟨rfl, rfl⟩)
          go_region
          go_wp2_with fail
          have T2 := hid ((hT.out.set1 (.int .i64 (2 * NL + X))).set0 (.int .i64 ((L : Int) + 1)))
          have B2 : Hid (Below w.heap.size w (((wr.setCell ⟨w.heap.size, 1, none⟩ (.int .i64 (2 * NL + X))).setCell ⟨w.heap.size, 0, none⟩ (.int .i64 ((L : Int) + 1))).drew)) := hid ((hB.out.setCell (p := ⟨w.heap.size, 1, none⟩) (Nat.le_refl _) _).setCell (p := ⟨w.heap.size, 0, none⟩) (Nat.le_refl _) _).drew
          have T2' : Hid (Two (((wr.setCell ⟨w.heap.size, 1, none⟩ (.int .i64 (2 * NL + X))).setCell ⟨w.heap.size, 0, none⟩ (.int .i64 ((L : Int) + 1))).drew) w.heap.size (.int .i64 ((L : Int) + 1)) (.int .i64 (2 * NL + X)) 69) := T2
          clear T2 hT q1 q2 q3 q4 hcr HI
          generalize (((wr.setCell ⟨w.heap.size, 1, none⟩ (.int .i64 (2 * NL + X))).setCell ⟨w.heap.size, 0, none⟩ (.int .i64 ((L : Int) + 1))).drew) = w2 at *
          have HBK2 := hid (HBK.out.below B2.out)
          have hmp := HBK2.out.map
          obtain ⟨q1, q2, q3, q4⟩ := T2'.out.cells
          have hjj : ((j + 1 : Nat) : Int) = (j : Int) + 1 := by omega
          rcases look_book HBK2.out.drew HK.out HP.out ((L : Int) + 1) (2 * NL + X) (wf_small (by omega) (by omega)) (wf_small (by omega) (by omega)) with ⟨p, hp, ⟨e1, e2⟩, hrun⟩ | ⟨hno, c, hrun⟩
          · have HR := hid (found (ss := ss) HK.out HP.out hnone.out HBT.out (by have := hji.out; omega) hp (Prod.ext (by show (kp K p).1 = L + 1; omega) (by show (kp K p).2 = _; rw [HSU.out]; exact e2)))
            generalize ss.getD p 0 = S at *
            have HJ : Hid ((i : Int) + (L + 1 : Nat) = (j : Int) + 1) := hid (by have := hji.out; omega)
            clear e1 e2 hp
            go_region
            all_goals
              go_wp2
              go_ret2
              exact ⟨_, _, rfl, by rw [← HJ.out]; exact HR.out, B2.out.drew⟩
          · have HN := hid (notFound HK.out hnone.out (fun p hp e => hno p hp ⟨by have := e.1; omega, by rw [← HSU.out]; exact e.2⟩))
            clear hno
            go_region
            go_wp2
            go_roundw
            case rel => exact ⟨j + 1, L + 1, by omega, by omega, by go_num, by show _ = _; have := hji.out; omega, HBT.out, HN.out, by rw [HSU.out]; exact T2'.out, B2.out.drew⟩
            case measure => simp [intOf]; omega
        · have HI := hid (isBit_no (xs.getD j 0) hbit wr)
          have HE := hid (ended (ss := ss) HK.out hnone.out (fun h => hbit (by rw [hji.out]; exact h.2.2)))
          generalize xs.getD j 0 = X at *
          clear hbit
          go_wp2_with (go_at_call 58; refine HI.out.mono ?_; rintro e w1 ⟨rfl, rfl⟩)
          go_ret2
          exact ⟨_, _, rfl, HE.out, hB.out⟩
      · have HE := hid (ended (ss := ss) HK.out hnone.out (fun h => hc2 h.2.1))
        have hlt' : (j : Int) < (xs.length : Int) := by omega
        have hL' : ¬ (L : Int) < 16 := by omega
        go_wp2_with fail
        go_ret2
        exact ⟨_, _, rfl, HE.out, hB.out⟩
    · have HE := hid (ended (ss := ss) HK.out hnone.out (fun h => by have := h.1; have := hji.out; omega))
      have hlt' : ¬ (j : Int) < (xs.length : Int) := by omega
      go_wp2_with fail
      go_ret2
      exact ⟨_, _, rfl, HE.out, hB.out⟩
end Go.Proofs.Ytmdmolofiblbmaa
