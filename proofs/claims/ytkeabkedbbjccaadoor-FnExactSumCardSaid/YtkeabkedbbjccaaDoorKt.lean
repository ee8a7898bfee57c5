/- Contracts of SumConst and SumStart, of the program and of the specification, the program's two arrays being as its text lays them. -/
import Derived.Test.YtkeabkedbbjccaaDoorRows
import Derived.Test.YtkeabkedbbjccaaDoorBl
import Derived.Lib.LaidTab
import Derived.Deep.QuietTactic
import Derived.BigQuiet
namespace Go.Proofs.YtkeabkedbbjccaaDoor
open Go.RowKit
set_option linter.unusedVariables false

def kt : List Int := [1116352408, 1899447441, 3049323471, 3921009573, 961987163, 1508970993, 2453635748, 2870763221, 3624381080, 310598401, 607225278, 1426881987, 1925078388, 2162078206, 2614888103, 3248222580, 3835390401, 4022224774, 264347078, 604807628, 770255983, 1249150122, 1555081692, 1996064986, 2554220882, 2821834349, 2952996808, 3210313671, 3336571891, 3584528711, 113926993, 338241895, 666307205, 773529912, 1294757372, 1396182291, 1695183700, 1986661051, 2177026350, 2456956037, 2730485921, 2820302411, 3259730800, 3345764771, 3516065817, 3600352804, 4094571909, 275423344, 430227734, 506948616, 659060556, 883997877, 958139571, 1322822218, 1537002063, 1747873779, 1955562222, 2024104815, 2227730452, 2361852424, 2428436474, 2756734187, 3204031479, 3329325298]
def st0 : List Int := [1779033703, 3144134277, 1013904242, 2773480762, 1359893119, 2600822924, 528734635, 1541459225]
theorem kt_len : kt.length = 64 := rfl
theorem st0_len : st0.length = 8 := rfl
theorem kt_bd : ∀ k : Fin 64, 0 ≤ kt.getD k.val 0 ∧ kt.getD k.val 0 < 4294967296 := by decide +kernel
theorem st0_bd : ∀ k : Fin 8, 0 ≤ st0.getD k.val 0 ∧ st0.getD k.val 0 < 4294967296 := by decide +kernel
/-- The constant of a round; the word that a sum starts with. -/
def kc (i : Int) : Int := if 0 ≤ i ∧ i ≤ 63 then kt.getD i.toNat 0 else 0
def sc (i : Int) : Int := if 0 ≤ i ∧ i ≤ 7 then st0.getD i.toNat 0 else 0
theorem kc_nat (i : Nat) (h : i < 64) : kc i = kt.getD i 0 := by
  unfold kc
  rw [if_pos (by omega)]
  rfl
theorem sc_nat (i : Nat) (h : i < 8) : sc i = st0.getD i 0 := by
  unfold sc
  rw [if_pos (by omega)]
  rfl
theorem kc_out {i : Int} (h : ¬ (0 ≤ i ∧ i ≤ 63)) : kc i = 0 := by unfold kc; rw [if_neg h]
theorem sc_out {i : Int} (h : ¬ (0 ≤ i ∧ i ≤ 7)) : sc i = 0 := by unfold sc; rw [if_neg h]
theorem gC : Tryd.prog.globalNamed "loop.example/g00120/impl.sumConsts" = some 1 := by kernel_rfl
theorem gS : Tryd.prog.globalNamed "loop.example/g00120/impl.sumStarts" = some 0 := by kernel_rfl
def ConstsAt (w : World) : Prop := Lib.TabIs Tryd.prog w "loop.example/g00120/impl.sumConsts" .u32 kt
def StartsAt (w : World) : Prop := Lib.TabIs Tryd.prog w "loop.example/g00120/impl.sumStarts" .u32 st0
theorem ConstsAt.cell {w : World} (h : ConstsAt w) (i : Nat) (hi : i < 64) : w.cell? ⟨1, i, none⟩ = some (.int .u32 (kt.getD i 0)) := Lib.TabIs.cell h gC i (by rw [kt_len]; exact hi)
theorem StartsAt.cell {w : World} (h : StartsAt w) (i : Nat) (hi : i < 8) : w.cell? ⟨0, i, none⟩ = some (.int .u32 (st0.getD i 0)) := Lib.TabIs.cell h gS i (by rw [st0_len]; exact hi)
theorem ConstsAt.lt {w : World} (h : ConstsAt w) : 1 < w.heap.size := World.block_lt_of_cell? w _ (h.cell 0 (by decide))
theorem StartsAt.lt {w : World} (h : StartsAt w) : 0 < w.heap.size := World.block_lt_of_cell? w _ (h.cell 0 (by decide))
theorem ConstsAt.below {w w' : World} {B : Nat} (h : ConstsAt w) (hB : w.heap.size ≤ B) (hb : Below B w w') : ConstsAt w' := by
  have e := hb.block 1 (Nat.lt_of_lt_of_le h.lt hB)
  unfold ConstsAt Lib.TabIs at *
  simp only [World.var?, gC, Option.bind_some] at h ⊢
  rw [e]
  exact h
theorem StartsAt.below {w w' : World} {B : Nat} (h : StartsAt w) (hB : w.heap.size ≤ B) (hb : Below B w w') : StartsAt w' := by
  have e := hb.block 0 (Nat.lt_of_lt_of_le h.lt hB)
  unfold StartsAt Lib.TabIs at *
  simp only [World.var?, gS, Option.bind_some] at h ⊢
  rw [e]
  exact h
theorem kt_in (x a b : Int) (w : World) :
    Calls Tryd.prog 37 #[.int .i64 x, .int .i64 a, .int .i64 b] w fun e w' => e = .returned (.bool (decide (a ≤ x ∧ x ≤ b))) ∧ w = w' := by
  by_cases h1 : a ≤ x <;> by_cases h2 : x ≤ b
  all_goals
    go_enter Tryd.func37, Tryd.ntmps37
    go_wp2
    go_ret
    exact ⟨by simp [h1, h2], rfl⟩

set_option maxHeartbeats 1600000 in
theorem spec_table (w : World) :
    Calls Tryd.prog 38 #[] w fun e w' => e = .returned (.slice (some ⟨w.heap.size, 0, none⟩) 64 64) ∧ w' = w.alloc (.cells (kt.map (Value.int .u32)).toArray 26) := by
  go_enter Tryd.func38, Tryd.ntmps38
  go_wp2_with fail
  go_ret
  exact ⟨rfl, rfl⟩

set_option maxHeartbeats 800000 in
theorem spec_const (i : Int) (w : World) :
    Calls Tryd.prog 20 #[.int .i64 i] w fun e w' => e = .returned (.int .u32 (kc i)) ∧ Below w.heap.size w w' := by
  have HI := hid (kt_in i 0 63 w)
  by_cases a : 0 ≤ i ∧ i ≤ 63
  · have hd : decide (0 ≤ i ∧ i ≤ 63) = true := by simpa using a
    rw [hd] at HI
    obtain ⟨j, rfl⟩ := Int.eq_ofNat_of_zero_le a.1
    have hj : j < 64 := by omega
    have hj2 : (j : Int) < 64 := by omega
    have HK := hid (kc_nat j hj)
    have hc : (w.alloc (.cells (kt.map (Value.int .u32)).toArray 26)).cell? ⟨w.heap.size, j, none⟩ = some (.int .u32 (kt.getD j 0)) := (Blk.new w (kt.map (Value.int .u32)) 26).cell (by
      rw [List.getElem?_map]
      have : j < kt.length := by rw [kt_len]; exact hj
      simp [List.getD, this])
    have HT := hid (spec_table w)
    have hb : Hid (Below w.heap.size w (w.alloc (.cells (kt.map (Value.int .u32)).toArray 26))) := (Below.refl _ _).alloc (Nat.le_refl _) _
    generalize w.alloc (.cells (kt.map (Value.int .u32)).toArray 26) = w1 at *
    generalize kt.getD j 0 = X at *
    clear hd a
    go_enter Tryd.func20, Tryd.ntmps20
    go_wp2_with fail
    refine HI.out.mono ?_
    rintro e w2 ⟨rfl, rfl⟩
    go_wp2_with fail
    refine HT.out.mono ?_
    rintro e w2 ⟨rfl, rfl⟩
    go_wp2_with fail
    go_ret
    exact ⟨ret_int HK.out.symm, hb.out⟩
  · have hd : decide (0 ≤ i ∧ i ≤ 63) = false := by simpa using a
    rw [hd] at HI
    rw [kc_out a]
    clear hd a
    go_enter Tryd.func20, Tryd.ntmps20
    go_wp2_with fail
    refine HI.out.mono ?_
    rintro e w2 ⟨rfl, rfl⟩
    go_wp2_with fail
    go_ret
    exact ⟨rfl, Below.refl _ _⟩

set_option maxHeartbeats 800000 in
theorem impl_const (i : Int) (w : World) (hw : ConstsAt w) :
    Calls Tryd.prog 19 #[.int .i64 i] w fun e w' => e = .returned (.int .u32 (kc i)) ∧ w = w' := by
  by_cases a : 0 ≤ i ∧ i ≤ 63
  · obtain ⟨j, rfl⟩ := Int.eq_ofNat_of_zero_le a.1
    have hj : j < 64 := by omega
    have hj2 : (j : Int) < 64 := by omega
    have HK := hid (kc_nat j hj)
    have hc := hw.cell j hj
    generalize kt.getD j 0 = X at *
    clear a hw
    go_enter Tryd.func19, Tryd.ntmps19
    go_wp2_with fail
    go_ret
    exact ⟨ret_int HK.out.symm, rfl⟩
  · rw [kc_out a]
    by_cases a1 : i < 0
    · clear a
      go_enter Tryd.func19, Tryd.ntmps19
      go_wp2_with fail
      go_ret
      exact ⟨rfl, rfl⟩
    · have a2 : 64 ≤ i := by omega
      clear a
      go_enter Tryd.func19, Tryd.ntmps19
      go_wp2_with fail
      go_ret
      exact ⟨rfl, rfl⟩

set_option maxHeartbeats 800000 in
theorem spec_start (i : Int) (w : World) :
    Calls Tryd.prog 29 #[.int .i64 i] w fun e w' => e = .returned (.int .u32 (sc i)) ∧ Below w.heap.size w w' := by
  have HI := hid (fun w => kt_in i 0 7 w)
  by_cases a : 0 ≤ i ∧ i ≤ 7
  · have hd : decide (0 ≤ i ∧ i ≤ 7) = true := by simpa using a
    rw [hd] at HI
    obtain ⟨j, rfl⟩ := Int.eq_ofNat_of_zero_le a.1
    have hj : j < 8 := by omega
    have hj2 : (j : Int) < 8 := by omega
    have HK := hid (sc_nat j hj)
    have hc : (w.alloc (.cells (st0.map (Value.int .u32)).toArray 26)).cell? ⟨w.heap.size, j, none⟩ = some (.int .u32 (st0.getD j 0)) := (Blk.new w (st0.map (Value.int .u32)) 26).cell (by
      rw [List.getElem?_map]
      have : j < st0.length := by rw [st0_len]; exact hj
      simp [List.getD, this])
    generalize st0.getD j 0 = X at *
    have hc2 : (w.alloc (.cells #[.int .u32 1779033703, .int .u32 3144134277, .int .u32 1013904242, .int .u32 2773480762, .int .u32 1359893119, .int .u32 2600822924, .int .u32 528734635, .int .u32 1541459225] 26)).cell? ⟨w.heap.size, j, none⟩ = some (.int .u32 X) := hc
    clear hd a hc
    have HB := hid ((Below.refl w.heap.size w).alloc (Nat.le_refl _) (.cells #[.int .u32 1779033703, .int .u32 3144134277, .int .u32 1013904242, .int .u32 2773480762, .int .u32 1359893119, .int .u32 2600822924, .int .u32 528734635, .int .u32 1541459225] 26))
    go_enter Tryd.func29, Tryd.ntmps29
    go_wp2_with fail
    refine (HI.out _).mono ?_
    rintro e w2 ⟨rfl, rfl⟩
    generalize w.alloc (.cells #[.int .u32 1779033703, .int .u32 3144134277, .int .u32 1013904242, .int .u32 2773480762, .int .u32 1359893119, .int .u32 2600822924, .int .u32 528734635, .int .u32 1541459225] 26) = w1 at *
    go_wp2_with fail
    go_ret
    exact ⟨ret_int HK.out.symm, HB.out⟩
  · have hd : decide (0 ≤ i ∧ i ≤ 7) = false := by simpa using a
    rw [hd] at HI
    rw [sc_out a]
    clear hd a
    go_enter Tryd.func29, Tryd.ntmps29
    go_wp2_with fail
    refine (HI.out _).mono ?_
    rintro e w2 ⟨rfl, rfl⟩
    go_wp2_with fail
    go_ret
    exact ⟨rfl, (Below.refl _ _).alloc (Nat.le_refl _) _⟩

set_option maxHeartbeats 800000 in
theorem impl_start (i : Int) (w : World) (hw : StartsAt w) :
    Calls Tryd.prog 11 #[.int .i64 i] w fun e w' => e = .returned (.int .u32 (sc i)) ∧ w = w' := by
  by_cases a : 0 ≤ i ∧ i ≤ 7
  · obtain ⟨j, rfl⟩ := Int.eq_ofNat_of_zero_le a.1
    have hj : j < 8 := by omega
    have hj2 : (j : Int) < 8 := by omega
    have HK := hid (sc_nat j hj)
    have hc := hw.cell j hj
    generalize st0.getD j 0 = X at *
    clear a hw
    go_enter Tryd.func11, Tryd.ntmps11
    go_wp2_with fail
    go_ret
    exact ⟨ret_int HK.out.symm, rfl⟩
  · rw [sc_out a]
    by_cases a1 : i < 0
    · clear a
      go_enter Tryd.func11, Tryd.ntmps11
      go_wp2_with fail
      go_ret
      exact ⟨rfl, rfl⟩
    · have a2 : 8 ≤ i := by omega
      clear a
      go_enter Tryd.func11, Tryd.ntmps11
      go_wp2_with fail
      go_ret
      exact ⟨rfl, rfl⟩
end Go.Proofs.YtkeabkedbbjccaaDoor
