/- The contract of l04Rest of the specification. -/
import Derived.Test.YtcikmgdfelejpaaJRdQ
namespace Go.Proofs.Ytcikmgdfelejpaa
open Go.RowKit
set_option linter.unusedVariables false

/-- What l04Rest answers. -/
def RtP (xs : List Int) (i n : Nat) (w : World) (e : Ending) (w' : World) : Prop :=
  ((11 < n ∨ (xs.length : Int) - i < n) ∧ e = .returned (.tuple #[.int .i64 0, .int .i64 (-1)]) ∨ n ≤ 11 ∧ (n : Int) ≤ (xs.length : Int) - i ∧ e = .returned (.tuple #[.int .i64 (frv ((xs.drop i).take n)), .int .i64 ((i + n : Nat) : Int)])) ∧ Below w.heap.size w w'

set_option maxRecDepth 100000 in
set_option maxHeartbeats 1600000 in
theorem spec_restAt (ao : Option Addr) (cap : Nat) (xs : List Int) (i n : Nat) (w : World) (hx : xs.length ≤ 1048576) (hi : i ≤ xs.length) (hn : n ≤ 1000) (hsl : SlOk ao xs.length cap) (hall : AllBits xs) (hv : View .i64 w ao xs.length xs) :
    Calls Try.prog 79 #[.slice ao xs.length cap, .int .i64 i, .int .i64 n] w (RtP xs i n w) := by
  by_cases h11 : (n : Int) ≤ 11
  · by_cases hlt : (n : Int) ≤ (xs.length : Int) - i
    · have hin : i + n ≤ xs.length := by omega
      have hlen : ((xs.drop i).take n).length = n := by simp; omega
      have HLT := hid hlt
      have H11 := hid (show n ≤ 11 by omega)
      have hcast : ((i + n : Nat) : Int) = (i : Int) + n := by omega
      have HC := hid hcast
      have hile : (i : Int) ≤ (i : Int) + n := by omega
      have hi0 : (0 : Int) ≤ (i : Int) + n := by omega
      have hsub : (i : Int) + n - i = n := by omega
      clear hcast
      rcases hsl with ⟨rfl, hx0, hc0⟩ | ⟨blk, off, rfl, hcap⟩
      · have hi00 : i = 0 := by omega
        have hn00 : n = 0 := by omega
        subst hi00
        subst hn00
        have HF := hid (fun q => spec_from none 0 [] q (by simp) (show View .i64 q none 0 [] from ⟨rfl, fun j hj => absurd hj (by omega)⟩) (fun j hj => by simp at hj))
        simp only [List.length_nil] at HF
        go_enter Try.func79, Try.ntmps79
        go_wp2_with fail
        refine (HF.out _).mono ?_
        rintro e w1 ⟨rfl, rfl⟩
        go_wp2_with fail
        go_ret2
        exact ⟨.inr ⟨by omega, HLT.out, rfl⟩, Below.refl _ _⟩
      · have hcap' : (i : Int) + n ≤ (cap : Int) := by omega
        have HF := hid (fun q a c (hq : View .i64 q a n ((xs.drop i).take n)) => spec_from a c ((xs.drop i).take n) q (by omega) (by rw [hlen]; exact hq) (hall.sub i n))
        rw [hlen] at HF
        have HVS := hid (hv.sub i n hin)
        have HVZ := hid (fun (a : Option Addr) (h0 : n = 0) => (show View .i64 w a n ((xs.drop i).take n) from ⟨hlen, fun j hj => absurd hj (by omega)⟩))
        clear hlen hv hall
        go_enter Try.func79, Try.ntmps79
        go_wp2_with fail
        · have h0 : n = 0 := by omega
          refine (HF.out _ _ _ (HVZ.out _ h0)).mono ?_
          rintro e w1 ⟨rfl, rfl⟩
          clear HF HVZ h0
          go_wp2_with fail
          go_ret2
          exact ⟨.inr ⟨H11.out, HLT.out, by rw [HC.out]; rfl⟩, Below.refl _ _⟩
        · refine (HF.out _ _ _ HVS.out).mono ?_
          rintro e w1 ⟨rfl, rfl⟩
          clear HF HVZ
          go_wp2_with fail
          go_ret2
          exact ⟨.inr ⟨H11.out, HLT.out, by rw [HC.out]; rfl⟩, Below.refl _ _⟩
    · have HLT := hid (show (xs.length : Int) - i < n by omega)
      clear hsl hall hv
      go_enter Try.func79, Try.ntmps79
      go_wp2_with fail
      go_ret2
      exact ⟨.inl ⟨.inr HLT.out, rfl⟩, Below.refl _ _⟩
  · have HLT := hid (show 11 < n by omega)
    clear hsl hall hv
    go_enter Try.func79, Try.ntmps79
    go_wp2_with fail
    go_ret2
    exact ⟨.inl ⟨.inl HLT.out, rfl⟩, Below.refl _ _⟩
end Go.Proofs.Ytcikmgdfelejpaa
