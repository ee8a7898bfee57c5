/- The contracts of HexBytes, of the program and of the specification. -/
import Derived.Test.YtmcfhfieabnigaaDoorDigit
namespace Go.Proofs.YtmcfhfieabnigaaDoor
open Go.RowKit
set_option linter.unusedVariables false

def noText : ByteArray := ⟨#[]⟩
def hexR (s : ByteArray) : ByteArray × Bool :=
  if s.size % 2 ≠ 0 ∨ 120000 < s.size then (noText, false) else if allOk (bt s) (s.size / 2) = true then (strOfNums (bytesTo (bt s) (s.size / 2)), true) else (noText, false)

theorem hexR_out (s : ByteArray) (h : s.size % 2 ≠ 0 ∨ 120000 < s.size) : hexR s = (noText, false) := by unfold hexR; rw [if_pos h]
theorem hexR_bad (s : ByteArray) (k : Nat) (hk : k < s.size / 2) (h : okAt (bt s) k = false) : hexR s = (noText, false) := by
  unfold hexR
  split
  · rfl
  · rw [if_neg]
    intro ha
    have := allOk_at (bt s) _ ha k hk
    rw [h] at this
    cases this
theorem hexR_ok (s : ByteArray) (h1 : ¬ (s.size % 2 ≠ 0 ∨ 120000 < s.size)) (h : allOk (bt s) (s.size / 2) = true) : hexR s = (strOfNums (bytesTo (bt s) (s.size / 2)), true) := by
  unfold hexR
  rw [if_neg h1, if_pos h]
theorem ret_sb {a : ByteArray} {c : Bool} {p : ByteArray × Bool} (h : p = (a, c)) : Ending.returned (.tuple #[.string a, .bool c]) = .returned (.tuple #[.string p.1, .bool p.2]) := by rw [h]

set_option maxRecDepth 100000 in
set_option maxHeartbeats 1600000 in
theorem spec_hexBytes (s : ByteArray) (w : World) (hev : s.size % 2 = 0) (hs : s.size ≤ 120000) :
    Calls Tryd.prog 10 #[.string s] w fun e w' => e = .returned (.tuple #[.string (hexR s).1, .bool (hexR s).2]) ∧ Below w.heap.size w w' := by
  have hl : decide ((120000 : Int) < (s.size : Int)) = false := by simp; omega
  have hm : ((s.size : Int) % 2 != 0) = false := by simp; omega
  have HEV := show Hid _ from hev
  clear hev
  go_enter Tryd.func10, Tryd.ntmps10
  go_wp2
  go_loopw [4, 5] (fun v i wr => ∃ k p : Nat, p ≤ s.size ∧ i = .int .i64 p ∧ Own wr w.heap.size 5 .u8 v (bytesTo (bt s) k) ∧ Hid (p = 2 * k ∧ allOk (bt s) k = true) ∧ Below w.heap.size w wr) (fun _ i _ => s.size - (intOf i).toNat)
  case atStart =>
    exact ⟨0, 0, by omega, rfl, Own.empty _ _ _ _ (Nat.le_refl _), ⟨rfl, rfl⟩, (Below.refl _ _).alloc (Nat.le_refl _) _⟩
  case round =>
    obtain ⟨k, p, hp, rfl, hown, hpk, hb⟩ := hrel
    by_cases hlt : p < s.size
    · have hlen := bytesTo_length (bt s) k
      have hp1 : p + 1 < s.size := by have := hpk.out.1; have := HEV.out; omega
      have hkb : k ≤ s.size := by have := hpk.out.1; omega
      have hx0 : (p : Int) < (s.size : Int) := by omega
      have hx1 : (p : Int) + 1 < (s.size : Int) := by omega
      have hx2 : (0 : Int) ≤ (p : Int) + 1 := by omega
      have hx3 : IntKind.i64.wrap ((p : Int) + 1) = (p : Int) + 1 := by rw [IntKind.wrap_i64]; omega
      have c0 := byte_lt s[p]
      have c1 := byte_lt s[p + 1]
      have d0 : (0 : Int) ≤ (s[p].toNat : Int) := by omega
      have d1 : (0 : Int) ≤ (s[p + 1].toNat : Int) := by omega
      have hst : Hid (bytesTo (bt s) (k + 1) = bytesTo (bt s) k ++ [16 * dg (s[p].toNat : Int) + dg (s[p + 1].toNat : Int)] ∧ allOk (bt s) (k + 1) = (decide (0 ≤ dg (s[p].toNat : Int)) && decide (0 ≤ dg (s[p + 1].toNat : Int)))) := by
        have e := hpk.out.1
        have e1 := bt_eq s p hlt
        have e2 := bt_eq s (p + 1) hp1
        show _ ∧ _
        refine ⟨?_, ?_⟩
        · rw [bytesTo, ← e, e1, e2]
        · rw [allOk, hpk.out.2, Bool.true_and, okAt, ← e, e1, e2]
      have hbad : Hid (okAt (bt s) k = (decide (0 ≤ dg (s[p].toNat : Int)) && decide (0 ≤ dg (s[p + 1].toNat : Int)))) := by
        show _ = _
        rw [okAt, ← hpk.out.1, bt_eq s p hlt, bt_eq s (p + 1) hp1]
      have l0 := dg_low (s[p].toNat : Int)
      have l1 := dg_low (s[p + 1].toNat : Int)
      have g0 := dg_high (s[p].toNat : Int)
      have g1 := dg_high (s[p + 1].toNat : Int)
      go_wp2_with fail
      go_quiet ((go_at_call 20; exact Calls.quiet_of_same (spec_digit _ _ (by assumption) (by assumption))))
      generalize dg (s[p].toNat : Int) = X at *
      generalize dg (s[p + 1].toNat : Int) = Y at *
      by_cases hX : X < 0
      · have HR := show Hid _ from hexR_bad s k (by have := hpk.out.1; omega) (by rw [hbad.out]; simp; omega)
        go_wp2
        go_ret2
        exact ⟨ret_sb HR.out, belowN hb nq⟩
      · by_cases hY : Y < 0
        · have HR := show Hid _ from hexR_bad s k (by have := hpk.out.1; omega) (by rw [hbad.out]; simp; omega)
          go_wp2
          go_ret2
          exact ⟨ret_sb HR.out, belowN hb nq⟩
        · go_wp2_with (at_builtin; refine wpList_push (wr.drewN nq) rfl _ _ 22 rfl _ 5 .u8 0 1 Tryd.underlying22 Tryd.info5 _ _ rfl (hown.drew nq) (16 * X + Y) rfl (by omega) (by decide) ?_)
          intro v1 w1 hown1 hb1
          go_wp2
          go_roundw
          case rel =>
            refine ⟨k + 1, p + 2, by omega, by go_num, by rw [hst.out.1]; exact hown1, ⟨by have := hpk.out.1; omega, by rw [hst.out.2]; simp; omega⟩, (belowN hb nq).trans hb1⟩
          case measure => simp [intOf]; omega
    · obtain rfl : p = s.size := by omega
      have hc := Own.conv Tryd.underlying22 Tryd.underlying5 Tryd.underlying9 hown
      have hk : k = s.size / 2 := by have := hpk.out.1; omega
      have HR := show Hid _ from hexR_ok s (by have := HEV.out; omega) (by rw [← hk]; exact hpk.out.2)
      rw [← hk] at HR
      clear hk
      go_wp2
      go_ret2
      exact ⟨ret_sb HR.out, hb⟩

set_option maxRecDepth 100000 in
set_option maxHeartbeats 1600000 in
theorem impl_hexBytes (s : ByteArray) (w : World) (hev : s.size % 2 = 0) (hs : s.size ≤ 120000) :
    Calls Tryd.prog 7 #[.string s] w fun e w' => e = .returned (.tuple #[.string (hexR s).1, .bool (hexR s).2]) ∧ Below w.heap.size w w' := by
  have hl : decide ((120000 : Int) < (s.size : Int)) = false := by simp; omega
  have hm : ((s.size : Int) % 2 != 0) = false := by simp; omega
  have HEV := show Hid _ from hev
  clear hev
  go_enter Tryd.func7, Tryd.ntmps7
  go_wp2_with (at_make; refine wpList_mk0 w rfl _ _ 22 rfl w.heap.size 5 .u8 0 1 Tryd.underlying22 Tryd.info5 _ _ (s.size / 2) rfl (by first | rfl | (simp; done)) (by omega) (by decide) (Nat.le_refl _) ?_)
  intro w0 hown0 hb0
  go_wp2
  go_loopw [4, 5] (fun v i wr => ∃ k p : Nat, p ≤ s.size ∧ i = .int .i64 p ∧ Own wr w.heap.size 5 .u8 v (bytesTo (bt s) k) ∧ Hid (p = 2 * k ∧ allOk (bt s) k = true) ∧ Below w.heap.size w wr) (fun _ i _ => s.size - (intOf i).toNat)
  case atStart =>
    exact ⟨0, 0, by omega, rfl, hown0, ⟨rfl, rfl⟩, hb0⟩
  case round =>
    obtain ⟨k, p, hp, rfl, hown, hpk, hb⟩ := hrel
    by_cases hlt : p < s.size
    · have hlen := bytesTo_length (bt s) k
      have hp1 : p + 1 < s.size := by have := hpk.out.1; have := HEV.out; omega
      have hkb : k ≤ s.size := by have := hpk.out.1; omega
      have hx0 : (p : Int) < (s.size : Int) := by omega
      have hx1 : (p : Int) + 1 < (s.size : Int) := by omega
      have hx2 : (0 : Int) ≤ (p : Int) + 1 := by omega
      have hx3 : IntKind.i64.wrap ((p : Int) + 1) = (p : Int) + 1 := by rw [IntKind.wrap_i64]; omega
      have c0 := byte_lt s[p]
      have c1 := byte_lt s[p + 1]
      have d0 : (0 : Int) ≤ (s[p].toNat : Int) := by omega
      have d1 : (0 : Int) ≤ (s[p + 1].toNat : Int) := by omega
      have hst : Hid (bytesTo (bt s) (k + 1) = bytesTo (bt s) k ++ [16 * dg (s[p].toNat : Int) + dg (s[p + 1].toNat : Int)] ∧ allOk (bt s) (k + 1) = (decide (0 ≤ dg (s[p].toNat : Int)) && decide (0 ≤ dg (s[p + 1].toNat : Int)))) := by
        have e := hpk.out.1
        have e1 := bt_eq s p hlt
        have e2 := bt_eq s (p + 1) hp1
        show _ ∧ _
        refine ⟨?_, ?_⟩
        · rw [bytesTo, ← e, e1, e2]
        · rw [allOk, hpk.out.2, Bool.true_and, okAt, ← e, e1, e2]
      have hbad : Hid (okAt (bt s) k = (decide (0 ≤ dg (s[p].toNat : Int)) && decide (0 ≤ dg (s[p + 1].toNat : Int)))) := by
        show _ = _
        rw [okAt, ← hpk.out.1, bt_eq s p hlt, bt_eq s (p + 1) hp1]
      have l0 := dg_low (s[p].toNat : Int)
      have l1 := dg_low (s[p + 1].toNat : Int)
      have g0 := dg_high (s[p].toNat : Int)
      have g1 := dg_high (s[p + 1].toNat : Int)
      go_wp2_with fail
      go_quiet ((go_at_call 18; exact Calls.quiet_of_same (impl_digit _ _ (by assumption) (by assumption))))
      generalize dg (s[p].toNat : Int) = X at *
      generalize dg (s[p + 1].toNat : Int) = Y at *
      by_cases hX : X < 0
      · have HR := show Hid _ from hexR_bad s k (by have := hpk.out.1; omega) (by rw [hbad.out]; simp; omega)
        go_wp2
        go_ret2
        exact ⟨ret_sb HR.out, belowN hb nq⟩
      · by_cases hY : Y < 0
        · have HR := show Hid _ from hexR_bad s k (by have := hpk.out.1; omega) (by rw [hbad.out]; simp; omega)
          go_wp2
          go_ret2
          exact ⟨ret_sb HR.out, belowN hb nq⟩
        · go_wp2_with (at_builtin; refine wpList_push (wr.drewN nq) rfl _ _ 22 rfl _ 5 .u8 0 1 Tryd.underlying22 Tryd.info5 _ _ rfl (hown.drew nq) (16 * X + Y) rfl (by omega) (by decide) ?_)
          intro v1 w1 hown1 hb1
          go_wp2
          go_roundw
          case rel =>
            refine ⟨k + 1, p + 2, by omega, by go_num, by rw [hst.out.1]; exact hown1, ⟨by have := hpk.out.1; omega, by rw [hst.out.2]; simp; omega⟩, (belowN hb nq).trans hb1⟩
          case measure => simp [intOf]; omega
    · obtain rfl : p = s.size := by omega
      have hc := Own.conv Tryd.underlying22 Tryd.underlying5 Tryd.underlying9 hown
      have hk : k = s.size / 2 := by have := hpk.out.1; omega
      have HR := show Hid _ from hexR_ok s (by have := HEV.out; omega) (by rw [← hk]; exact hpk.out.2)
      rw [← hk] at HR
      clear hk
      go_wp2
      go_ret2
      exact ⟨ret_sb HR.out, hb⟩

theorem spec_hexBytes_no (s : ByteArray) (w : World) (h : s.size % 2 ≠ 0 ∨ 120000 < s.size) (hs : s.size ≤ 1048576) :
    Calls Tryd.prog 10 #[.string s] w fun e w' => e = .returned (.tuple #[.string (hexR s).1, .bool (hexR s).2]) ∧ Below w.heap.size w w' := by
  have HR := show Hid _ from hexR_out s h
  by_cases h2 : s.size % 2 = 0
  · have hm : ((s.size : Int) % 2 != 0) = false := by simp; omega
    have hl : (120000 : Int) < (s.size : Int) := by omega
    clear h h2
    go_enter Tryd.func10, Tryd.ntmps10
    go_wp2
    go_ret2
    exact ⟨ret_sb HR.out, (Below.refl _ _).alloc (Nat.le_refl _) _⟩
  · have hm : ((s.size : Int) % 2 != 0) = true := by simp; omega
    clear h h2
    go_enter Tryd.func10, Tryd.ntmps10
    go_wp2
    go_ret2
    exact ⟨ret_sb HR.out, (Below.refl _ _).alloc (Nat.le_refl _) _⟩

theorem impl_hexBytes_no (s : ByteArray) (w : World) (h : s.size % 2 ≠ 0 ∨ 120000 < s.size) (hs : s.size ≤ 1048576) :
    Calls Tryd.prog 7 #[.string s] w fun e w' => e = .returned (.tuple #[.string (hexR s).1, .bool (hexR s).2]) ∧ Below w.heap.size w w' := by
  have HR := show Hid _ from hexR_out s h
  by_cases h2 : s.size % 2 = 0
  · have hm : ((s.size : Int) % 2 != 0) = false := by simp; omega
    have hl : (120000 : Int) < (s.size : Int) := by omega
    clear h h2
    go_enter Tryd.func7, Tryd.ntmps7
    go_wp2
    go_ret2
    exact ⟨ret_sb HR.out, Below.refl _ _⟩
  · have hm : ((s.size : Int) % 2 != 0) = true := by simp; omega
    clear h h2
    go_enter Tryd.func7, Tryd.ntmps7
    go_wp2
    go_ret2
    exact ⟨ret_sb HR.out, Below.refl _ _⟩

theorem spec_hexBytes_any (s : ByteArray) (w : World) (hs : s.size ≤ 1048576) :
    Calls Tryd.prog 10 #[.string s] w fun e w' => e = .returned (.tuple #[.string (hexR s).1, .bool (hexR s).2]) ∧ Below w.heap.size w w' := by
  by_cases h : s.size % 2 ≠ 0 ∨ 120000 < s.size
  · exact spec_hexBytes_no s w h hs
  · exact spec_hexBytes s w (by omega) (by omega)
theorem impl_hexBytes_any (s : ByteArray) (w : World) (hs : s.size ≤ 1048576) :
    Calls Tryd.prog 7 #[.string s] w fun e w' => e = .returned (.tuple #[.string (hexR s).1, .bool (hexR s).2]) ∧ Below w.heap.size w w' := by
  by_cases h : s.size % 2 ≠ 0 ∨ 120000 < s.size
  · exact impl_hexBytes_no s w h hs
  · exact impl_hexBytes s w (by omega) (by omega)

end Go.Proofs.YtmcfhfieabnigaaDoor
