/- The walk of the law FnZigzag. -/
import Derived.Test.YteakmjdgnagjiaaDoorZig
namespace Go.Proofs.YteakmjdgnagjiaaDoor
open Go.RowKit
set_option linter.unusedVariables false

theorem WayAt.below {w w' : World} (h : WayAt w) (hb : Below w.heap.size w w') : WayAt w' := by
  have h0 : (0 : Nat) < w.heap.size := World.block_lt_of_cell? w _ (h.cell 0 (by decide))
  have e := hb.block 0 h0
  unfold WayAt Lib.TabIs at *
  simp only [World.var?, gTab, Option.bind_some] at h ⊢
  rw [e]
  exact h

theorem Tryd.info3 : (Tryd.prog.info? 3).map (fun i => (i.zero, i.size, i.bytes)) = some (some (.int .i64 0), 1, 8) := by kernel_rfl
theorem big_any (ao : Option Addr) (n cap : Nat) (w : World) :
    Calls Tryd.prog 5 #[.slice ao n cap] w fun e w' => e = .returned (.bool (decide ((1048576 : Int) < (n : Int)))) ∧ w = w' := by
  go_enter Tryd.func5, Tryd.ntmps5
  go_wp2
  go_ret
  exact ⟨rfl, rfl⟩

/-- What 'at' tells of a code at 2. -/
def atV (xs : List Int) : Int := if 2 < xs.length then xs.getD 2 0 else (14 + (xs.length : Int)) % 256
theorem at_any (ao : Option Addr) (cap : Nat) (xs : List Int) (w : World) (hn : xs.length ≤ 1048576) (hv : View .u8 w ao xs.length xs) (hwf : ∀ x ∈ xs, (Lit.int .u8 x).wf = true) :
    0 ≤ atV xs ∧ Calls Tryd.prog 7 #[.slice ao xs.length cap, .int .i64 2] w fun e w' => e = .returned (.int .i64 (atV xs)) ∧ w = w' := by
  by_cases h : 2 < xs.length
  · have hf : atV xs = xs.getD 2 0 := by unfold atV; rw [if_pos h]
    obtain ⟨b, off, rfl, hc⟩ := hv.2 2 h
    have hb : 0 ≤ xs.getD 2 0 ∧ xs.getD 2 0 ≤ 255 := by
      have := hwf (xs.getD 2 0) (by simp [List.getD, h])
      generalize xs.getD 2 0 = X at *
      simp [Lit.wf, IntKind.min, IntKind.max, IntKind.signed, IntKind.bits] at this
      omega
    rw [hf]
    have hlt : (2 : Int) < (xs.length : Int) := by omega
    refine ⟨hb.1, ?_⟩
    generalize xs.getD 2 0 = X at *
    clear hv hwf hf
    obtain ⟨b0, b1⟩ := hb
    go_enter Tryd.func7, Tryd.ntmps7
    go_wp2
    go_ret
    exact ⟨rfl, rfl⟩
  · have hf : atV xs = (14 + (xs.length : Int)) % 256 := by unfold atV; rw [if_neg h]
    rw [hf]
    have hlt : ¬ (2 : Int) < (xs.length : Int) := by omega
    have hm : (14 + (xs.length : Int)).tmod 256 = (14 + (xs.length : Int)) % 256 := Int.tmod_eq_emod_of_nonneg (by omega)
    refine ⟨by omega, ?_⟩
    clear hv hwf hf
    go_enter Tryd.func7, Tryd.ntmps7
    go_wp2
    go_ret
    exact ⟨rfl, rfl⟩

/-- The place ahead of place K, the first one ahead of itself. -/
def pv (K : Nat) : Nat := K - 1
theorem near_all : ∀ K : Fin 64, (0 ≤ zr K.val ∧ zr K.val ≤ 7) ∧ (0 ≤ zc K.val ∧ zc K.val ≤ 7) ∧ (zr K.val - zr (pv K.val) ≤ 1 ∧ zr (pv K.val) - zr K.val ≤ 1) ∧ (zc K.val - zc (pv K.val) ≤ 1 ∧ zc (pv K.val) - zc K.val ≤ 1) ∧ 8 * zr K.val + zc K.val = zt.getD K.val 0 := by decide +kernel
theorem near_bd : ∀ K : Fin 65, (0 ≤ zr (pv K.val) ∧ zr (pv K.val) ≤ 7) ∧ (0 ≤ zc (pv K.val) ∧ zc (pv K.val) ≤ 7) := by decide +kernel
theorem apart_all : ∀ K : Fin 64, ∀ i : Fin 64, i.val < K.val → zt.getD i.val 0 ≠ zt.getD K.val 0 := by decide +kernel
theorem take_get (K i : Nat) (h : i < K) : (zt.take K).getD i 0 = zt.getD i 0 := by
  simp [List.getD, h]
theorem take_len (K : Nat) (h : K ≤ 64) : (zt.take K).length = K := by
  rw [List.length_take, zt_len]
  omega
theorem take_next (K : Nat) (h : K < 64) : zt.take (K + 1) = zt.take K ++ [zt.getD K 0] := by
  have : K < zt.length := by rw [zt_len]; exact h
  rw [List.take_add_one]
  simp [List.getD, this]

set_option maxRecDepth 100000 in
set_option maxHeartbeats 3200000 in
theorem law_fnZigzag (ao : Option Addr) (n cap : Nat) (zs : List Int) (w : World) (hr : IsRow .u8 w ao n cap zs) (hw : WayAt w) :
    Calls Tryd.prog 3 #[.slice ao n cap] w fun e w' => e = .returned (.bool true) ∧ Below w.heap.size w w' := by
  have hlen := hr.len.1
  by_cases hl : (1048576 : Int) < (n : Int)
  · have hd : decide ((1048576 : Int) < (n : Int)) = true := by simpa using hl
    go_enter Tryd.func3, Tryd.ntmps3
    go_wp2_with (go_at_call 5; refine (big_any _ _ _ _).mono ?_; rw [hd]; rintro e w' ⟨rfl, rfl⟩)
    go_ret
    exact ⟨rfl, Below.refl _ _⟩
  · have hd : decide ((1048576 : Int) < (n : Int)) = false := by simpa using hl
    have HV := hid hr.view
    have hwf := hr.wf
    have hxn : (zs.take n).length = n := hr.view.1
    generalize zs.take n = xs at *
    subst hxn
    have ha := (at_any ao cap xs w (by omega) HV.out hwf).1
    have HA := hid (fun w' (hb : Below w.heap.size w w') => (at_any ao cap xs w' (by omega) (HV.out.below (Nat.le_refl _) hb) hwf).2)
    generalize atV xs = A at *
    have HW := hid hw
    have HZ := hid (fun k w' (hb : Below w.heap.size w w') => impl_zigzag k w' (hw.below hb))
    have HF : Hid (((zr A == -1) == decide (63 < A)) = true) := hid (by
      by_cases h : A ≤ 63
      · have := zt_bd ⟨A.toNat, by omega⟩
        rw [zr_in ⟨ha, h⟩]
        simp only at this
        generalize zt.getD A.toNat 0 = X at *
        have e1 : (X / 8 == -1) = false := by simp; omega
        have e2 : decide (63 < A) = false := by simp; omega
        rw [e1, e2]
        rfl
      · rw [zr_out (by omega)]
        have e2 : decide (63 < A) = true := by simp; omega
        rw [e2]
        rfl)
    have z0 : zr 0 = 0 := by decide +kernel
    have z1 : zc 0 = 0 := by decide +kernel
    clear hr hw hwf
    go_enter Tryd.func3, Tryd.ntmps3
    go_wp2_with fail
    refine (big_any _ _ _ _).mono ?_
    rw [hd]
    rintro e w' ⟨rfl, rfl⟩
    clear hd
    go_wp2_with fail
    refine (HZ.out 0 _ ((Below.refl _ _).alloc (Nat.le_refl _) _)).mono ?_
    rw [z0, z1]
    rintro e w1 ⟨rfl, hb1⟩
    have B1 := hid (((Below.refl w.heap.size w).alloc (Nat.le_refl _) (.cells #[] 3)).trans (hb1.mono (by simp)))
    have O1 := hid ((Own.empty w 3 .i64 w.heap.size (Nat.le_refl _)).below hb1)
    clear hb1
    go_wp2_with fail
    go_loopw [3, 4, 5, 6] (fun s r c k wr => ∃ K : Nat, K ≤ 64 ∧ k = .int .i64 K ∧ r = .int .i64 (zr (pv K)) ∧ c = .int .i64 (zc (pv K)) ∧ Hid (Own wr w.heap.size 3 .i64 s (zt.take K)) ∧ Hid (Below w.heap.size w wr)) (fun _ _ _ k _ => 64 - (intOf k).toNat)
    case atStart => exact ⟨0, by omega, rfl, val_int z0.symm, val_int z1.symm, O1.out, B1.out⟩
    case round =>
      obtain ⟨K, hK, rfl, rfl, rfl, hown, hb⟩ := hrel
      obtain ⟨⟨r0, r1⟩, r2, r3⟩ := near_bd ⟨K, by omega⟩
      by_cases hlt : K < 64
      · obtain ⟨⟨x0, x1⟩, ⟨y0, y1⟩, ⟨d0, d1⟩, ⟨f0, f1⟩, hz⟩ := near_all ⟨K, hlt⟩
        have HAP := hid (fun i (hi : i < K) => apart_all ⟨K, hlt⟩ ⟨i, by omega⟩ hi)
        have HN := hid (take_next K hlt)
        have hpv : Hid (zr (pv (K + 1)) = zr K ∧ zc (pv (K + 1)) = zc K) := ⟨rfl, rfl⟩
        have hlt' : (K : Int) < 64 := by omega
        have HZK := hid (HZ.out K wr hb.out)
        simp only at x0 x1 y0 y1 d0 d1 f0 f1 hz r0 r1 r2 r3 HAP
        generalize zr (pv K) = R at *
        generalize zc (pv K) = C at *
        generalize hX : zr (K : Int) = X at *
        generalize hY : zc (K : Int) = Y at *
        generalize zt.getD K 0 = Z at *
        clear hX hY
        go_wp2_with fail
        refine HZK.out.mono ?_
        rintro e w2 ⟨rfl, hb2⟩
        have O2 := hid (hown.out.below hb2)
        have B2 := hid (hb.out.trans (hb2.mono hb.out.size))
        clear hb2
        obtain ⟨so, sc, rfl, sv⟩ := O2.out.view
        rw [take_len K hK] at sv O2
        rw [take_len K hK]
        have SV := hid sv
        clear sv
        go_wp2_with fail
        go_loop [9] (fun i => ∃ I : Nat, I ≤ K ∧ i = .int .i64 I) (fun i => K - (intOf i).toNat)
        case atStart => exact ⟨0, by omega, rfl⟩
        case round =>
          obtain ⟨I, hI, rfl⟩ := hrel
          by_cases hi : I < K
          · obtain ⟨b, off, rfl, hc⟩ := SV.out.2 I hi
            rw [take_get K I hi] at hc
            have hne := HAP.out I hi
            generalize zt.getD I 0 = Q at *
            have hq : (Q == Z) = false := by simpa using hne
            have hi' : (I : Int) < (K : Int) := by omega
            clear hne
            go_wp2_with fail
            go_round
            case rel => exact ⟨I + 1, by omega, by go_num⟩
            case measure => simp [intOf]; omega
          · obtain rfl : I = K := by omega
            go_wp2_with (at_builtin; refine wpList_push _ rfl _ _ 24 rfl _ 3 .i64 0 8 Tryd.underlying24 Tryd.info3 _ _ rfl O2.out Z rfl (by rw [take_len I hK]; omega) (by decide) ?_)
            intro v3 w3 ho3 hb3
            go_wp2
            go_roundw
            case rel => exact ⟨I + 1, by omega, by go_num, val_int hpv.out.1.symm, val_int hpv.out.2.symm, by rw [HN.out]; exact ho3, B2.out.trans hb3⟩
            case measure => simp [intOf]; omega
      · obtain rfl : K = 64 := by omega
        have HAW := hid (HA.out wr hb.out)
        have HZA := hid (HZ.out A wr hb.out)
        have HA2 := hid (fun q (hq : Below wr.heap.size wr q) => HA.out q (hb.out.trans (hq.mono hb.out.size)))
        go_wp2_with fail
        refine HAW.out.mono ?_
        rintro e w2 ⟨rfl, rfl⟩
        go_wp2_with fail
        refine HZA.out.mono ?_
        rintro e w2 ⟨rfl, hb2⟩
        go_wp2_with fail
        refine (HA2.out _ hb2).mono ?_
        rintro e w3 ⟨rfl, rfl⟩
        go_wp2
        go_ret
        exact ⟨ret_bool HF.out, hb.out.trans (hb2.mono hb.out.size)⟩
end Go.Proofs.YteakmjdgnagjiaaDoor
