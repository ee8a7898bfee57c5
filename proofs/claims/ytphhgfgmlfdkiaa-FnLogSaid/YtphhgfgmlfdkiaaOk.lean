/- Contracts of hasSector and of DiskOk, of the program and of the specification. -/
import Derived.Test.YtphhgfgmlfdkiaaSz
import Derived.Deep.WholeRow
import Derived.Deep.CutRange
namespace Go.Proofs.Ytphhgfgmlfdkiaa
open Go.RowKit
set_option linter.unusedVariables false

/-- There is such a sector. -/
def hasS (n : Nat) (i : Int) : Bool := decide (0 ≤ i ∧ i < n)
/-- The disk is right. -/
def DOk (S : List ByteArray) (L : List (Int × ByteArray)) : Prop :=
  (S.length ≤ 1500 ∧ L.length ≤ 3000) ∧ (∀ j, j < S.length → (sAt S j).size ≤ 128) ∧ ∀ j, j < L.length → hasS S.length (lAt L j).1 = true ∧ (lAt L j).2.size ≤ 128
def okD (S : List ByteArray) (L : List (Int × ByteArray)) : Decidable (DOk S L) := by unfold DOk; infer_instance
def okB (S : List ByteArray) (L : List (Int × ByteArray)) : Bool := @decide (DOk S L) (okD S L)
theorem okB_yes {S : List ByteArray} {L : List (Int × ByteArray)} (h : DOk S L) : okB S L = true := @decide_eq_true _ (okD S L) h
theorem okB_no {S : List ByteArray} {L : List (Int × ByteArray)} (h : ¬ DOk S L) : okB S L = false := @decide_eq_false _ (okD S L) h
theorem okB_iff {S : List ByteArray} {L : List (Int × ByteArray)} (h : okB S L = true) : DOk S L := @of_decide_eq_true _ (okD S L) h

theorem spec_in (x a b : Int) (w : World) :
    Calls Try.prog 55 #[.int .i64 x, .int .i64 a, .int .i64 b] w fun e w' => e = .returned (.bool (decide (a ≤ x ∧ x ≤ b))) ∧ w = w' := by
  by_cases h1 : a ≤ x <;> by_cases h2 : x ≤ b
  all_goals
    go_enter Try.func55, Try.ntmps55
    go_wp2
    go_ret
    exact ⟨by simp [h1, h2], rfl⟩
theorem spec_has (n : Nat) (x : Int) (w : World) :
    Calls Try.prog 55 #[.int .i64 x, .int .i64 0, .int .i64 ((n : Int) - 1)] w fun e w' => e = .returned (.bool (hasS n x)) ∧ w = w' := by
  refine (spec_in x 0 (n - 1) w).mono ?_
  rintro e w' ⟨rfl, rfl⟩
  refine ⟨ret_bool ?_, rfl⟩
  unfold hasS
  have : (0 ≤ x ∧ x ≤ (n : Int) - 1) ↔ (0 ≤ x ∧ x < (n : Int)) := by omega
  simp [this]

set_option maxHeartbeats 400000 in
theorem impl_has (a : Option Addr) (n c : Nat) (a' : Option Addr) (n' c' : Nat) (x : Int) (w : World) :
    Calls Try.prog 71 #[.agg #[.slice a n c, .slice a' n' c'], .int .i64 x] w fun e w' => e = .returned (.bool (hasS n x)) ∧ Below w.heap.size w w' := by
  have HB := hid ((Below.refl w.heap.size w).alloc (Nat.le_refl _) (.cells #[.slice a n c, .slice a' n' c'] 27))
  by_cases h1 : (0 : Int) ≤ x
  · by_cases h2 : x < (n : Int)
    · have HR := hid (show hasS n x = true from decide_eq_true ⟨h1, h2⟩)
      generalize hasS n x = R at *
      go_enter Try.func71, Try.ntmps71
      go_wp2
      go_ret
      exact ⟨ret_bool HR.out.symm, HB.out⟩
    · have HR := hid (show hasS n x = false from decide_eq_false (fun h => h2 h.2))
      generalize hasS n x = R at *
      go_enter Try.func71, Try.ntmps71
      go_wp2
      go_ret
      exact ⟨ret_bool HR.out.symm, HB.out⟩
  · have HR := hid (show hasS n x = false from decide_eq_false (fun h => h1 h.1))
    generalize hasS n x = R at *
    go_enter Try.func71, Try.ntmps71
    go_wp2
    go_ret
    exact ⟨ret_bool HR.out.symm, HB.out⟩

set_option maxRecDepth 100000 in
set_option maxHeartbeats 1600000 in
theorem impl_ok (v : Value) (S : List ByteArray) (L : List (Int × ByteArray)) (w : World) (hv : DV w v S L) :
    Calls Try.prog 42 #[v] w fun e w' => e = .returned (.bool (okB S L)) ∧ Below w.heap.size w w' := by
  obtain ⟨a, c, a', c', rfl, r1, r2⟩ := hv
  have HB := hid ((Below.refl w.heap.size w).alloc (Nat.le_refl _) (.cells #[.slice a S.length c, .slice a' L.length c'] 27))
  have HN := hid (Blk.new w [.slice a S.length c, .slice a' L.length c'] 27)
  have R1 := hid (r1.below (Nat.le_refl _) HB.out)
  have R2 := hid (r2.below (Nat.le_refl _) HB.out)
  clear r1 r2
  have HY := hid (fun h => okB_yes (S := S) (L := L) h)
  have HX := hid (fun h => okB_no (S := S) (L := L) h)
  by_cases h1 : (1500 : Int) < (S.length : Int)
  · have HR := hid (HX.out (fun h => by have := h.1.1; omega))
    generalize okB S L = R at *
    go_enter Try.func42, Try.ntmps42
    go_wp2_with fail
    go_ret
    exact ⟨ret_bool HR.out.symm, HB.out⟩
  · by_cases h2 : (3000 : Int) < (L.length : Int)
    · have HR := hid (HX.out (fun h => by have := h.1.2; omega))
      generalize okB S L = R at *
      go_enter Try.func42, Try.ntmps42
      go_wp2_with fail
      go_ret
      exact ⟨ret_bool HR.out.symm, HB.out⟩
    · have HLN := hid (show S.length ≤ 1500 ∧ L.length ≤ 3000 by omega)
      generalize okB S L = R at *
      have HHS := hid (fun i q => impl_has a S.length c a' L.length c' i q)
      generalize hN : S.length = n at *
      generalize hM : L.length = m at *
      have HNN := hid hN
      have HMM := hid hM
      clear hN hM
      go_enter Try.func42, Try.ntmps42
      go_wp2_with fail
      generalize w.alloc (.cells #[.slice a n c, .slice a' m c'] 27) = w0 at *
      go_loop [20] (fun i => ∃ k : Nat, k ≤ n ∧ i = .int .i64 k ∧ Hid (∀ j, j < k → (sAt S j).size ≤ 128)) (fun i => n - (intOf i).toNat)
      case atStart => exact ⟨0, by omega, rfl, fun j hj => by omega⟩
      case round =>
        obtain ⟨k, hk, rfl, hok⟩ := hrel
        by_cases hlt : k < n
        · obtain ⟨b, off, rfl, hc⟩ := R1.out.atS k (by rw [HNN.out]; exact hlt)
          have hlt' : (k : Int) < (n : Int) := by omega
          generalize hX : sAt S k = X at *
          have HXX := hid hX
          clear hX
          by_cases hbig : (128 : Int) < (X.size : Int)
          · have HR := hid (HX.out (fun h => by have := h.2.1 k (by rw [HNN.out]; exact hlt); rw [HXX.out] at this; omega))
            go_wp2_with fail
            go_ret
            exact ⟨ret_bool HR.out.symm, HB.out⟩
          · go_wp2_with fail
            go_round
            case rel =>
              refine ⟨k + 1, by omega, by go_num, fun j hj => ?_⟩
              by_cases e : j = k
              · subst e
                rw [HXX.out]
                omega
              · exact hok.out j (by omega)
            case measure => simp [intOf]; omega
        · obtain rfl : k = n := by omega
          have c1 := HN.out.cell (i := 1) rfl
          have c0 := HN.out.cell (i := 0) rfl
          go_wp2_with fail
          go_loopw [31] (fun i wr => ∃ q : Nat, q ≤ m ∧ i = .int .i64 q ∧ Hid (∀ j, j < q → hasS S.length (lAt L j).1 = true ∧ (lAt L j).2.size ≤ 128) ∧ Hid (Below w0.heap.size w0 wr)) (fun i _ => m - (intOf i).toNat)
          case atStart => exact ⟨0, by omega, rfl, fun j hj => by omega, Below.refl _ _⟩
          case round =>
            obtain ⟨q, hq, rfl, hokL, hb⟩ := hrel
            clear c1 c0
            by_cases hltq : q < m
            · obtain ⟨b, off, rfl, hc1, hc2⟩ := (R2.out.below (Nat.le_refl _) hb.out).atW q (by rw [HMM.out]; exact hltq)
              have hltq' : (q : Int) < (m : Int) := by omega
              have hNr := HN.out.below hb.out HN.out.lt
              have d0 := hNr.cell (i := 0) rfl
              have d1 := hNr.cell (i := 1) rfl
              generalize hX : lAt L q = X at *
              have HXX := hid hX
              clear hX
              obtain ⟨x, s⟩ := X
              simp only at hc1 hc2
              have HC := hid (HHS.out x (wr.alloc (.cells #[.int .i64 x, .string s] 69)))
              have hA := (Below.refl wr.heap.size wr).alloc (Nat.le_refl _) (.cells #[.int .i64 x, .string s] 69)
              have HT := hid (Blk.new wr [.int .i64 x, .string s] 69)
              have hNs := hNr.alloc (.cells #[.int .i64 x, .string s] 69)
              have e0 := hNs.cell (i := 0) rfl
              have e1 := hNs.cell (i := 1) rfl
              have HBA := hid (hb.out.trans (hA.mono hb.out.size))
              cases hS : hasS k x with
              | false =>
                have HR := hid (HX.out (fun h => by have := (h.2.2 q (by rw [HMM.out]; exact hltq)).1; rw [HXX.out, HNN.out] at this; rw [hS] at this; exact Bool.noConfusion this))
                rw [hS] at HC
                clear hA
                go_wp2_with (go_at_call 71; refine HC.out.mono ?_; generalize wr.alloc (.cells #[.int .i64 x, .string s] 69) = wb at *; rintro e w2 ⟨rfl, hb2⟩; have B2 := hid (HB.out.trans ((HBA.out.trans (hb2.mono HBA.out.size)).mono HB.out.size)); clear hb2)
                go_ret
                exact ⟨ret_bool HR.out.symm, B2.out⟩
              | true =>
                rw [hS] at HC
                clear hA
                by_cases hbig : (128 : Int) < (s.size : Int)
                · have HR := hid (HX.out (fun h => by have := (h.2.2 q (by rw [HMM.out]; exact hltq)).2; rw [HXX.out] at this; simp only at this; omega))
                  go_wp2_with (go_at_call 71; refine HC.out.mono ?_; generalize wr.alloc (.cells #[.int .i64 x, .string s] 69) = wb at *; rintro e w2 ⟨rfl, hb2⟩; have B2 := hid (HB.out.trans ((HBA.out.trans (hb2.mono HBA.out.size)).mono HB.out.size)); have T2 := (HT.out.below hb2 HT.out.lt).cell (i := 1) rfl; clear hb2)
                  go_ret
                  exact ⟨ret_bool HR.out.symm, B2.out⟩
                · go_wp2_with (go_at_call 71; refine HC.out.mono ?_; generalize wr.alloc (.cells #[.int .i64 x, .string s] 69) = wb at *; rintro e w2 ⟨rfl, hb2⟩; have B2 := hid (HBA.out.trans (hb2.mono HBA.out.size)); have T2 := (HT.out.below hb2 HT.out.lt).cell (i := 1) rfl; clear hb2)
                  go_roundw
                  case rel =>
                    refine ⟨q + 1, by omega, by go_num, fun j hj => ?_, B2.out⟩
                    by_cases e : j = q
                    · subst e
                      rw [HXX.out, HNN.out]
                      exact ⟨hS, by show s.size ≤ 128; omega⟩
                    · exact hokL.out j (by omega)
                  case measure => simp [intOf]; omega
            · obtain rfl : q = m := by omega
              have HR := hid (HY.out ⟨by rw [HNN.out, HMM.out]; exact HLN.out, fun j hj => hok.out j (by rw [← HNN.out]; exact hj), fun j hj => hokL.out j (by rw [← HMM.out]; exact hj)⟩)
              go_wp2_with fail
              go_ret
              exact ⟨ret_bool HR.out.symm, HB.out.trans (hb.out.mono HB.out.size)⟩

set_option maxRecDepth 100000 in
set_option maxHeartbeats 1600000 in
theorem spec_ok (v : Value) (S : List ByteArray) (L : List (Int × ByteArray)) (w : World) (hv : DV w v S L) :
    Calls Try.prog 25 #[v] w fun e w' => e = .returned (.bool (okB S L)) ∧ Below w.heap.size w w' := by
  obtain ⟨a, c, a', c', rfl, r1, r2⟩ := hv
  have HB := hid ((Below.refl w.heap.size w).alloc (Nat.le_refl _) (.cells #[.slice a S.length c, .slice a' L.length c'] 27))
  have HN := hid (Blk.new w [.slice a S.length c, .slice a' L.length c'] 27)
  have R1 := hid (r1.below (Nat.le_refl _) HB.out)
  have R2 := hid (r2.below (Nat.le_refl _) HB.out)
  clear r1 r2
  have HY := hid (fun h => okB_yes (S := S) (L := L) h)
  have HX := hid (fun h => okB_no (S := S) (L := L) h)
  by_cases h1 : (1500 : Int) < (S.length : Int)
  · have HR := hid (HX.out (fun h => by have := h.1.1; omega))
    generalize okB S L = R at *
    go_enter Try.func25, Try.ntmps25
    go_wp2_with fail
    go_ret
    exact ⟨ret_bool HR.out.symm, HB.out⟩
  · by_cases h2 : (3000 : Int) < (L.length : Int)
    · have HR := hid (HX.out (fun h => by have := h.1.2; omega))
      generalize okB S L = R at *
      go_enter Try.func25, Try.ntmps25
      go_wp2_with fail
      go_ret
      exact ⟨ret_bool HR.out.symm, HB.out⟩
    · have HLN := hid (show S.length ≤ 1500 ∧ L.length ≤ 3000 by omega)
      generalize okB S L = R at *
      have HHS := hid (fun i q => spec_has S.length i q)
      generalize hN : S.length = n at *
      generalize hM : L.length = m at *
      have HNN := hid hN
      have HMM := hid hM
      clear hN hM
      go_enter Try.func25, Try.ntmps25
      go_wp2_with fail
      generalize w.alloc (.cells #[.slice a n c, .slice a' m c'] 27) = w0 at *
      go_loop [3] (fun i => ∃ k : Nat, k ≤ n ∧ i = .int .i64 k ∧ Hid (∀ j, j < k → (sAt S j).size ≤ 128)) (fun i => n - (intOf i).toNat)
      case atStart => exact ⟨0, by omega, rfl, fun j hj => by omega⟩
      case round =>
        obtain ⟨k, hk, rfl, hok⟩ := hrel
        have c0 := HN.out.cell (i := 0) rfl
        have c1 := HN.out.cell (i := 1) rfl
        by_cases hlt : k < n
        · obtain ⟨b, off, rfl, hc⟩ := R1.out.atS k (by rw [HNN.out]; exact hlt)
          have hlt' : (k : Int) < (n : Int) := by omega
          generalize hX : sAt S k = X at *
          have HXX := hid hX
          clear hX
          by_cases hbig : (128 : Int) < (X.size : Int)
          · have HR := hid (HX.out (fun h => by have := h.2.1 k (by rw [HNN.out]; exact hlt); rw [HXX.out] at this; omega))
            go_wp2_with fail
            go_ret
            exact ⟨ret_bool HR.out.symm, HB.out⟩
          · go_wp2_with fail
            go_round
            case rel =>
              refine ⟨k + 1, by omega, by go_num, fun j hj => ?_⟩
              by_cases e : j = k
              · subst e
                rw [HXX.out]
                omega
              · exact hok.out j (by omega)
            case measure => simp [intOf]; omega
        · obtain rfl : k = n := by omega
          go_wp2_with fail
          go_loopw [4] (fun i wr => ∃ q : Nat, q ≤ m ∧ i = .int .i64 q ∧ Hid (∀ j, j < q → hasS S.length (lAt L j).1 = true ∧ (lAt L j).2.size ≤ 128) ∧ Hid (Below w0.heap.size w0 wr)) (fun i _ => m - (intOf i).toNat)
          case atStart => exact ⟨0, by omega, rfl, fun j hj => by omega, Below.refl _ _⟩
          case round =>
            obtain ⟨q, hq, rfl, hokL, HBW⟩ := hrel
            clear c1 c0
            have hNr := HN.out.below HBW.out HN.out.lt
            have d0 := hNr.cell (i := 0) rfl
            have d1 := hNr.cell (i := 1) rfl
            by_cases hltq : q < m
            · obtain ⟨b, off, rfl, hc1, hc2⟩ := (R2.out.below (Nat.le_refl _) HBW.out).atW q (by rw [HMM.out]; exact hltq)
              have hltq' : (q : Int) < (m : Int) := by omega
              generalize hX : lAt L q = X at *
              have HXX := hid hX
              clear hX
              obtain ⟨x, s⟩ := X
              simp only at hc1 hc2
              have HC := hid (HHS.out x)
              have hwk : IntKind.i64.wrap ((k : Int) - 1) = (k : Int) - 1 := by rw [IntKind.wrap_i64]; omega
              cases hS : hasS k x with
              | false =>
                have HR := hid (HX.out (fun h => by have := (h.2.2 q (by rw [HMM.out]; exact hltq)).1; rw [HXX.out, HNN.out] at this; rw [hS] at this; exact Bool.noConfusion this))
                rw [hS] at HC
                go_wp2_with fail
                go_quiet ((go_at_call 55; exact (HC.out _).mono (fun _ _ h => ⟨h.1, _, h.2.symm⟩)))
                go_wp2_with fail
                go_ret
                exact ⟨ret_bool HR.out.symm, HB.out.trans ((belowN HBW.out _).mono HB.out.size)⟩
              | true =>
                rw [hS] at HC
                by_cases hbig : (128 : Int) < (s.size : Int)
                · have HR := hid (HX.out (fun h => by have := (h.2.2 q (by rw [HMM.out]; exact hltq)).2; rw [HXX.out] at this; simp only at this; omega))
                  go_wp2_with fail
                  go_quiet ((go_at_call 55; exact (HC.out _).mono (fun _ _ h => ⟨h.1, _, h.2.symm⟩)))
                  go_wp2_with fail
                  go_ret
                  exact ⟨ret_bool HR.out.symm, HB.out.trans ((belowN HBW.out _).mono HB.out.size)⟩
                · go_wp2_with fail
                  go_quiet ((go_at_call 55; exact (HC.out _).mono (fun _ _ h => ⟨h.1, _, h.2.symm⟩)))
                  go_wp2_with fail
                  go_roundw
                  case rel =>
                    refine ⟨q + 1, by omega, by go_num, fun j hj => ?_, belowN HBW.out _⟩
                    by_cases e : j = q
                    · subst e
                      rw [HXX.out, HNN.out]
                      exact ⟨hS, by show s.size ≤ 128; omega⟩
                    · exact hokL.out j (by omega)
                  case measure => simp [intOf]; omega
            · obtain rfl : q = m := by omega
              have HR := hid (HY.out ⟨by rw [HNN.out, HMM.out]; exact HLN.out, fun j hj => hok.out j (by rw [← HNN.out]; exact hj), fun j hj => hokL.out j (by rw [← HMM.out]; exact hj)⟩)
              go_wp2_with fail
              go_ret
              exact ⟨ret_bool HR.out.symm, HB.out.trans (HBW.out.mono HB.out.size)⟩
end Go.Proofs.Ytphhgfgmlfdkiaa
