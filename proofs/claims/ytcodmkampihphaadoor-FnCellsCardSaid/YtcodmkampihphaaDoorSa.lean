/- The square of a block, of the program and of the specification. -/
import Derived.Test.YtcodmkampihphaaDoorSq
namespace Go.Proofs.YtcodmkampihphaaDoor
open Go.RowKit
set_option linter.unusedVariables false

/-- 64 zeros; a number and 63 zeros. -/
def z64 : List Int := List.replicate 64 0
def d63 (d : Int) : List Int := d :: List.replicate 63 0
theorem d63_len (d : Int) : (d63 d).length = 64 := rfl
theorem zero52 : ∀ q, (zeroValue 52).run Tryd.prog q = .ok (.agg (ivs z64).toArray) q := (zero_of_info (P := Tryd.prog) (t := 52) (n := 64) (by kernel_rfl)).1
theorem zero30 : ∀ q, (zeroValue 30).run Tryd.prog q = .ok (.agg (ivs z64).toArray) q := (zero_of_info (P := Tryd.prog) (t := 30) (n := 64) (by kernel_rfl)).1
theorem size52 : (Tryd.prog.info? 52).map (·.size) = some 64 := (zero_of_info (P := Tryd.prog) (t := 52) (v := .agg (ivs z64).toArray) (by kernel_rfl)).2
theorem size30 : (Tryd.prog.info? 30).map (·.size) = some 64 := (zero_of_info (P := Tryd.prog) (t := 30) (v := .agg (ivs z64).toArray) (by kernel_rfl)).2
theorem build52 (d : Int) : ∀ q, (Instr.build 52 #[(0, .int .i64 d)]).run Tryd.prog q = .ok (.agg (ivs (d63 d)).toArray) q := fun q => by kernel_rfl

theorem size52L {L : List Int} (h : L.length = 64) : (Tryd.prog.info? 52).map (·.size) = some (ivs L).length := by rw [ivs_len, h]; exact size52
theorem size30L {L : List Int} (h : L.length = 64) : (Tryd.prog.info? 30).map (·.size) = some (ivs L).length := by rw [ivs_len, h]; exact size30
theorem ivs_len2 {L M : List Int} (h : L.length = 64) (k : M.length = 64) : (ivs L).length = (ivs M).length := by rw [ivs_len, ivs_len, h, k]
theorem z64_len : z64.length = 64 := rfl
/-- The square of a block whose first k numbers behind Dc have been laid. -/
def sqTo (d : Int) (xs : List Int) : Nat → List Int
  | 0 => d63 d
  | k + 1 => (sqTo d xs k).set (zt.getD (k + 1) 0).toNat (xs.getD k 0)
def sq (d : Int) (xs : List Int) : List Int := sqTo d xs 63
theorem sqTo_len (d : Int) (xs : List Int) : ∀ k, (sqTo d xs k).length = 64
  | 0 => d63_len d
  | k + 1 => by rw [sqTo, List.length_set, sqTo_len d xs k]

theorem sq_len (d : Int) (xs : List Int) : (sq d xs).length = 64 := sqTo_len d xs 63
theorem zt_nat (k : Nat) (h : k < 64) : 0 ≤ zt.getD k 0 ∧ zt.getD k 0 < 64 := by
  have := zt_bd ⟨k, h⟩
  simp only at this
  omega
theorem sqTo_ivs (d : Int) (xs : List Int) (k : Nat) (X : Int) (hX : zt.getD (k + 1) 0 = X) (x : Int) (hx : xs.getD k 0 = x) : (ivs (sqTo d xs k)).set X.toNat (.int .i64 x) = ivs (sqTo d xs (k + 1)) := by
  rw [ivs_set, ← hX, ← hx]
  rfl

set_option maxRecDepth 20000 in
set_option maxHeartbeats 800000 in
theorem impl_square (d : Int) (xs : List Int) (a : Option Addr) (c : Nat) (w : World) (h63 : xs.length = 63) (hv : View .i64 w a 63 xs) (hw : WayAt w) :
    Calls Tryd.prog 31 #[.agg #[.int .i64 d, .slice a 63 c]] w fun e w' => e = .returned (.agg (ivs (sq d xs)).toArray) ∧ Below w.heap.size w w' := by
  have HV := hid hv
  have HW := hid hw
  clear hv hw
  go_enter Tryd.func31, Tryd.ntmps31
  go_wp2_with (first | (with_reducible refine at_alloc 52 ?_; refine wpList_newZ _ rfl 52 rfl (ivs z64) zero52 ?_) | (with_reducible refine at_build 52 ?_; refine wpList_buildZ _ rfl 52 _ rfl (.int .i64 d) rfl (ivs (d63 d)) (build52 d) ?_) | (with_reducible refine at_store 52 ?_; refine wpList_storeR _ rfl 52 _ _ rfl (w.heap.size + 1 + 1) (ivs z64) (ivs (d63 d)) (Blk.newG (by simp only [World.size_alloc]) _ _) (by go_simp) rfl (ivs_len2 z64_len (d63_len d)) (size52L (d63_len d)) (ivs_one _) ?_))
  intro w1 hb1 he1
  have hS : (((w.alloc (.cells #[.int .i64 d, .slice a 63 c] 28)).alloc (.cells (ivs z64).toArray 52)).alloc (.cells (ivs z64).toArray 52)).heap.size = w.heap.size + 1 + 1 + 1 := by simp
  have HP := hid (((((Blk.new w [.int .i64 d, .slice a 63 c] 28)).alloc (.cells (ivs z64).toArray 52)).alloc (.cells (ivs z64).toArray 52)).ef he1 (by omega))
  have HR := hid (((Blk.newG (w := w.alloc (.cells #[.int .i64 d, .slice a 63 c] 28)) (g := w.heap.size + 1) (by simp) (ivs z64) 52).alloc (.cells (ivs z64).toArray 52)).ef he1 (by omega))
  have HB := hid (Below.trans ((((Below.refl w.heap.size w).alloc (Nat.le_refl _) (.cells #[.int .i64 d, .slice a 63 c] 28)).alloc (by simp) (.cells (ivs z64).toArray 52)).alloc (by simp; omega) (.cells (ivs z64).toArray 52)) (he1.below (B := w.heap.size) (by omega) (by rw [hS]; omega)))
  have HD := hid hb1
  clear hb1 he1 hS
  have q1 : w1.cell? ⟨w.heap.size, 0, none⟩ = some (.int .i64 d) := HP.out.cell rfl
  have q2 : w1.cell? ⟨w.heap.size, 1, none⟩ = some (.slice a 63 c) := HP.out.cell rfl
  go_wp2_with fail
  go_loopw [12] (fun i wr => ∃ k : Nat, k ≤ 63 ∧ i = .int .i64 k ∧ Hid (Blk wr (w.heap.size + 1 + 1) (ivs (sqTo d xs k)) 52) ∧ Hid (Ef (w.heap.size + 1 + 1) w1 wr)) (fun i _ => 63 - (intOf i).toNat)
  case atStart => exact ⟨0, by omega, rfl, HD.out, Ef.refl _ _⟩
  case round =>
    obtain ⟨k, hk, rfl, hD, hE⟩ := hrel
    by_cases hlt : k < 63
    · have hlt' : (k : Int) < 63 := by omega
      obtain ⟨b, off, hab, hc⟩ := HV.out.2 k hlt
      subst hab
      have hcr := ((hE.out.below (B := w.heap.size) (by omega) (by have := HR.out.lt; omega)).cell (p := ⟨b, off + k, none⟩) (World.block_lt_of_cell? w _ hc)).trans ((HB.out.cell (p := ⟨b, off + k, none⟩) (World.block_lt_of_cell? w _ hc)).trans hc)
      have h0 : (0 : Nat) < w.heap.size := World.block_lt_of_cell? w _ (HW.out.cell 0 (by decide))
      have hz := ((hE.out.below (B := w.heap.size) (by omega) (by have := HR.out.lt; omega)).cell (p := ⟨0, k + 1, none⟩) h0).trans ((HB.out.cell (p := ⟨0, k + 1, none⟩) h0).trans (HW.out.cell (k + 1) (by omega)))
      obtain ⟨z0, z1⟩ := zt_nat (k + 1) (by omega)
      have HN := hid (sqTo_ivs d xs k _ rfl _ rfl)
      have hl := ivs_get (sqTo d xs k) (zt.getD (k + 1) 0).toNat (by rw [sqTo_len]; omega)
      have hcl := hD.out.cell hl
      have hfr := hD.out.free (zt.getD (k + 1) 0).toNat
      clear hl
      generalize zt.getD (k + 1) 0 = X at *
      generalize xs.getD k 0 = x at *
      have hE2 := hid (hE.out.trans (Ef.set wr X.toNat (.int .i64 x)))
      go_wp2_with fail
      go_roundw
      case rel => exact ⟨k + 1, by omega, by go_num, by rw [← HN.out]; exact hD.out.set _ _, hE2.out⟩
      case measure => simp [intOf]; omega
    · obtain rfl : k = 63 := by omega
      have hL := hid (sq_len d xs)
      have hD2 : Hid (Blk wr (w.heap.size + 1 + 1) (ivs (sq d xs)) 52) := hD
      have hR2 := hid (HR.out.ef hE.out (by omega))
      have hB2 := hid (HB.out.trans (hE.out.below (by omega) HB.out.size))
      clear hD hE hlt hk
      obtain ⟨S, hS⟩ : ∃ S, S = sq d xs := ⟨_, rfl⟩
      rw [← hS] at hL hD2
      have HS := hid hS
      clear hS
      go_wp2_with (first | (with_reducible refine at_load 52 ?_; refine wpList_loadR _ rfl 52 _ rfl (w.heap.size + 1 + 1) (ivs S) hD2.out (by go_simp) 64 3 Tryd.underlying52 (size52L hL.out) ?_) | (with_reducible refine at_store 52 ?_; refine wpList_storeR _ rfl 52 _ _ rfl (w.heap.size + 1) (ivs z64) (ivs S) hR2.out (by go_simp) rfl (ivs_len2 z64_len hL.out) (size52L hL.out) (ivs_one _) ?_))
      intro w3 hb3 he3
      go_wp2_with fail
      refine bodyPost_ret (v := .agg (ivs S).toArray) ?_ rfl ⟨by rw [HS.out], hB2.out.trans (he3.below (by omega) hB2.out.size)⟩
      have hld := run_loadVar_row (P := Tryd.prog) w3 (w.heap.size + 1) 52 52 (ivs S).toArray (0, 0) _ hb3 Tryd.underlying52 rfl (by simpa using size52L hL.out)
      exact results_one_cell rfl _ _ _ _ _ rfl hld
end Go.Proofs.YtcodmkampihphaaDoor
