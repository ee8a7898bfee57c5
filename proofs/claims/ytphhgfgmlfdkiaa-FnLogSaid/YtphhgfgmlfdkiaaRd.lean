/- Contracts of l10Read and of DiskRead, of the program and of the specification. -/
import Derived.Test.YtphhgfgmlfdkiaaOd
namespace Go.Proofs.Ytphhgfgmlfdkiaa
open Go.RowKit
set_option linter.unusedVariables false

/-- What is read of sector i. -/
def rdP (S : List ByteArray) (L : List (Int × ByteArray)) (i : Int) : ByteArray := rdF (mpTo L L.length) S i
theorem mpTo_hit (L : List (Int × ByteArray)) (k : Nat) (i : Int) (h : (lAt L k).1 = i) : mpTo L (k + 1) i = some (lAt L k) := by
  show updF (mpTo L k) (lAt L k).1 (lAt L k) i = _
  unfold updF
  rw [if_pos h]
theorem mpTo_miss (L : List (Int × ByteArray)) (k : Nat) (i : Int) (h : (lAt L k).1 ≠ i) : mpTo L (k + 1) i = mpTo L k i := by
  show updF (mpTo L k) (lAt L k).1 (lAt L k) i = _
  unfold updF
  rw [if_neg h]

set_option maxRecDepth 100000 in
set_option maxHeartbeats 1600000 in
theorem spec_l10read (v : Value) (S : List ByteArray) (L : List (Int × ByteArray)) (i : Nat) (w : World) (hn : S.length ≤ 1500) (hm : L.length ≤ 3000) (hi : i < S.length) (hv : DV w v S L) :
    Calls Try.prog 59 #[v, .int .i64 i] w fun e w' => e = .returned (.string (rdP S L i)) ∧ Below w.heap.size w w' := by
  obtain ⟨a, c, a', c', rfl, r1, r2⟩ := hv
  have HB := hid ((Below.refl w.heap.size w).alloc (Nat.le_refl _) (.cells #[.slice a S.length c, .slice a' L.length c'] 27))
  have HN := hid (Blk.new w [.slice a S.length c, .slice a' L.length c'] 27)
  have R1 := hid (r1.below (Nat.le_refl _) HB.out)
  have R2 := hid (r2.below (Nat.le_refl _) HB.out)
  have HF := hid (show rdP S L i = rdF (mpTo L L.length) S i from rfl)
  clear r1 r2
  generalize rdP S L i = R at *
  generalize hN : S.length = n at *
  generalize hM : L.length = m at *
  have HNN := hid hN
  have HMM := hid hM
  clear hN hM
  go_enter Try.func59, Try.ntmps59
  go_wp2_with fail
  generalize w.alloc (.cells #[.slice a n c, .slice a' m c'] 27) = w0 at *
  go_loop [5] (fun q => ∃ k : Nat, k ≤ m ∧ q = .int .i64 ((k : Int) - 1) ∧ Hid (mpTo L m (i : Int) = mpTo L k (i : Int))) (fun q => (intOf q + 1).toNat)
  case atStart => exact ⟨m, by omega, rfl, rfl⟩
  case round =>
    obtain ⟨k, hk, rfl, hmp⟩ := hrel
    have c0 := HN.out.cell (i := 0) rfl
    have c1 := HN.out.cell (i := 1) rfl
    by_cases hk0 : 0 < k
    · obtain ⟨j, rfl⟩ : ∃ j, k = j + 1 := ⟨k - 1, by omega⟩
      have hj : ((j + 1 : Nat) : Int) - 1 = (j : Int) := by omega
      rw [hj]
      obtain ⟨bl, off, rfl, hc1, hc2⟩ := R2.out.atW j (by rw [HMM.out]; omega)
      have hlt' : (j : Int) < (m : Int) := by omega
      have HH := hid (mpTo_hit L j (i : Int))
      have HX := hid (mpTo_miss L j (i : Int))
      generalize lAt L j = X at *
      obtain ⟨x, s⟩ := X
      simp only at hc1 hc2 HH HX
      by_cases hxi : x = (i : Int)
      · subst hxi
        have HR : Hid (R = s) := hid (by rw [HF.out, rdF_some (hmp.out.trans (HH.out rfl))])
        go_wp2_with fail
        go_ret
        exact ⟨ret_str HR.out.symm, HB.out⟩
      · have HR := hid (hmp.out.trans (HX.out hxi))
        have hxi' : (x == (i : Int)) = false := by simpa using hxi
        go_wp2_with fail
        go_round
        case rel => exact ⟨j, by omega, val_int (by omega), HR.out⟩
        case measure => simp [intOf]
    · obtain rfl : k = 0 := by omega
      have HR : Hid (R = sAt S i) := hid (by rw [HF.out, rdF_none (hmp.out.trans rfl), Int.toNat_natCast])
      obtain ⟨bl, off, rfl, hc⟩ := R1.out.atS i (by rw [HNN.out]; exact hi)
      have hi' : (i : Int) < (n : Int) := by omega
      generalize sAt S i = X at *
      go_wp2_with fail
      go_ret
      exact ⟨ret_str HR.out.symm, HB.out⟩

theorem ret_sb {R1 s : ByteArray} {R2 b : Bool} (h : (R1, R2) = (s, b)) : Ending.returned (.tuple #[.string s, .bool b]) = .returned (.tuple #[.string R1, .bool R2]) := by cases h; rfl
/-- What DiskRead answers. -/
def drR (S : List ByteArray) (L : List (Int × ByteArray)) (i : Int) : ByteArray × Bool := if okB S L = true ∧ hasS S.length i = true then (rdP S L i, true) else (ByteArray.empty, false)
theorem drR_yes {S : List ByteArray} {L : List (Int × ByteArray)} {i : Int} (h1 : okB S L = true) (h2 : hasS S.length i = true) : drR S L i = (rdP S L i, true) := by unfold drR; rw [if_pos ⟨h1, h2⟩]
theorem drR_no1 {S : List ByteArray} {L : List (Int × ByteArray)} {i : Int} (h1 : okB S L = false) : drR S L i = (ByteArray.empty, false) := by unfold drR; rw [if_neg (fun h => by rw [h1] at h; exact Bool.noConfusion h.1)]
theorem drR_no2 {S : List ByteArray} {L : List (Int × ByteArray)} {i : Int} (h1 : hasS S.length i = false) : drR S L i = (ByteArray.empty, false) := by unfold drR; rw [if_neg (fun h => by rw [h1] at h; exact Bool.noConfusion h.2)]
theorem hasS_nat {n : Nat} {i : Int} (h : hasS n i = true) : ∃ k : Nat, i = (k : Int) ∧ k < n := by
  have := of_decide_eq_true h
  exact ⟨i.toNat, by omega, by omega⟩

end Go.Proofs.Ytphhgfgmlfdkiaa
