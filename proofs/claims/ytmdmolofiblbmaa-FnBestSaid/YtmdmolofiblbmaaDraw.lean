/- Contracts of the functions that draw: what they hand back is told only so far as the laws need it. -/
import Derived.Test.YtmdmolofiblbmaaRows
import Derived.Test.YtmdmolofiblbmaaView
import Derived.Deep.QuietTactic
import Derived.BigQuiet
namespace Go.Proofs.Ytmdmolofiblbmaa
open Go.RowKit
set_option linter.unusedVariables false

theorem Try.drawInfo3 : (Try.prog.info? 3).map (fun i => (i.zero, i.size, i.bytes)) = some (some (.int .i64 0), 1, 8) := by kernel_rfl
theorem Try.drawInfo5 : (Try.prog.info? 5).map (fun i => (i.zero, i.size, i.bytes)) = some (some (.int .u8 0), 1, 1) := by kernel_rfl

/-- Of what was there, nothing but block C has turned. -/
def Eff (C : Nat) (w w' : World) : Prop := w.grownBy w' (some C)
theorem Eff.refl (C : Nat) (w : World) : Eff C w w := World.grownBy.refl w _
theorem Eff.trans {C : Nat} {a b c : World} (h : Eff C a b) (k : Eff C b c) : Eff C a c :=
  ⟨k.os.trans h.os, k.tape.trans h.tape, k.output.trans h.output, Nat.le_trans h.size k.size, fun i hi hne => (k.block i (Nat.lt_of_lt_of_le hi h.size) hne).trans (h.block i hi hne)⟩
theorem Eff.setCell {C : Nat} {a w : World} (h : Eff C a w) (j : Nat) (u : Value) : Eff C a (w.setCell ⟨C, j, none⟩ u) :=
  h.trans ⟨rfl, rfl, rfl, by simp [World.setCell], fun k hk hne => Below.heap_setCell _ _ _ _ (fun e => hne (by rw [e]))⟩
theorem Eff.drewN {C : Nat} {a w : World} (h : Eff C a w) (n : Nat) : Eff C a (w.drewN n) := ⟨h.os, h.tape, h.output, h.size, h.block⟩
theorem Eff.drew {C : Nat} {a w : World} (h : Eff C a w) : Eff C a w.drew := ⟨h.os, h.tape, h.output, h.size, h.block⟩
theorem Eff.alloc {C : Nat} {a w : World} (h : Eff C a w) (o : Obj) : Eff C a (w.alloc o) := h.trans (World.grownBy_alloc w o _)
theorem Eff.below {C : Nat} {w w' : World} (h : Eff C w w') (hC : C ≤ w.heap.size) : Below C w w' := ⟨h.os, h.tape, h.output, h.size, fun k hk => h.block k (by omega) (fun e => by have := Option.some.inj e; omega)⟩
theorem Eff.ofBelow {C : Nat} {a w w' : World} (h : Eff C a w) (hb : Below a.heap.size w w') : Eff C a w' :=
  ⟨hb.os.trans h.os, hb.tape.trans h.tape, hb.output.trans h.output, Nat.le_trans h.size hb.size, fun k hk hne => (hb.block k hk).trans (h.block k hk hne)⟩
theorem Eff.own {C base : Nat} {w w' : World} {e : TypeId} {k : IntKind} {v : Value} {xs : List Int} (ho : Own w base e k v xs) (h : Eff C w w') (hb : C < base) : Own w' base e k v xs := by
  refine ⟨Nat.le_trans ho.1 h.size, ho.2.1, ?_⟩
  rcases ho.2.2 with h0 | ⟨g, cap, cur, hv, hg, hh, r⟩
  · exact .inl h0
  · exact .inr ⟨g, cap, cur, hv, hg, (h.block g (Array.getElem?_eq_some_iff.1 hh).1 (fun e => by have := Option.some.inj e; omega)).trans hh, r⟩

/-- The code that is drawn from: bytes that lie in the memory of w0. -/
def Code (w0 : World) (ao : Option Addr) (n : Nat) (zs : List Int) : Prop := n ≤ 1048576 ∧ View .u8 w0 ao n zs ∧ ∀ x ∈ zs, (Lit.int .u8 x).wf = true

/-- The cursor lies at block C. -/
def Cur (w0 : World) (ao : Option Addr) (n cap C : Nat) (w : World) : Prop :=
  w0.heap.size ≤ C ∧ Below w0.heap.size w0 w ∧ ∃ (i : Nat) (h : Int), i ≤ n ∧ w.heap[C]? = some (.cells #[.slice ao n cap, .int .i64 i, .int .i64 h] 80 (0, 0))

theorem cur_cells {w : World} {C : Nat} {ao : Option Addr} {n cap : Nat} {i h : Int} (hw : w.heap[C]? = some (.cells #[.slice ao n cap, .int .i64 i, .int .i64 h] 80 (0, 0))) :
    w.cell? ⟨C, 0, none⟩ = some (.slice ao n cap) ∧ w.cell? ⟨C, 1, none⟩ = some (.int .i64 i) ∧ w.cell? ⟨C, 2, none⟩ = some (.int .i64 h) ∧ w.frozen? ⟨C, 0, none⟩ = false ∧ w.frozen? ⟨C, 1, none⟩ = false ∧ w.frozen? ⟨C, 2, none⟩ = false := by
  simp [World.cell?, World.frozen?, hw]

theorem Cur.lt {w0 w : World} {ao : Option Addr} {n cap C : Nat} (h : Cur w0 ao n cap C w) : C < w.heap.size := by
  obtain ⟨_, _, i, x, _, hh⟩ := h
  exact (Array.getElem?_eq_some_iff.1 hh).1

/-- Whatever leaves the old blocks alone leaves the cursor alone. -/
theorem Cur.below {w0 w w' : World} {ao : Option Addr} {n cap C : Nat} (h : Cur w0 ao n cap C w) (hb : Below w.heap.size w w') : Cur w0 ao n cap C w' := by
  have hlt := h.lt
  obtain ⟨h1, h2, i, x, hi, hh⟩ := h
  exact ⟨h1, h2.trans (hb.mono h2.size), i, x, hi, (hb.block C hlt).trans hh⟩

theorem and255 (y : Int) : 0 ≤ bits .and .i64 y 255 ∧ bits .and .i64 y 255 ≤ 255 := by
  have hle : (BitVec.ofInt 64 y &&& BitVec.ofInt 64 255).toNat ≤ 255 := by
    rw [BitVec.toNat_and]
    exact Nat.le_trans Nat.and_le_right (by decide)
  have h : bits .and .i64 y 255 = IntKind.i64.wrap ((BitVec.ofInt 64 y &&& BitVec.ofInt 64 255).toNat : Int) := rfl
  rw [h, IntKind.wrap_i64]
  generalize (BitVec.ofInt 64 y &&& BitVec.ofInt 64 255).toNat = m at *
  omega

set_option maxRecDepth 100000 in
set_option maxHeartbeats 1600000 in
theorem byte_any (w0 : World) (ao : Option Addr) (n cap C : Nat) (zs : List Int) (w : World) (hcode : Code w0 ao n zs) (hcur : Cur w0 ao n cap C w) :
    Calls Try.prog 65 #[.pointer (some ⟨C, 0, none⟩)] w fun e w' => ∃ x : Int, e = .returned (.int .i64 x) ∧ (0 ≤ x ∧ x ≤ 255) ∧ Cur w0 ao n cap C w' ∧ Eff C w w' := by
  obtain ⟨hC, hb0, i, h, hi, hh⟩ := hcur
  obtain ⟨c0, c1, c2, f0, f1, f2⟩ := cur_cells hh
  have hn := hcode.1
  have HH := hid hh
  have HB := hid hb0
  have h2 : ∀ y : Int, (w.setCell ⟨C, 2, none⟩ (.int .i64 y)).heap[C]? = some (.cells #[.slice ao n cap, .int .i64 i, .int .i64 y] 80 (0, 0)) := fun y => heap_setCell_same w C 2 _ 80 _ hh
  have H2 := hid h2
  clear h2
  by_cases hlt : i < n
  · obtain ⟨b, off, rfl, hcell⟩ := hcode.2.1.2 i hlt
    have hblt := World.block_lt_of_cell? w0 _ hcell
    have hcr : w.cell? ⟨b, off + i, none⟩ = some (.int .u8 (zs.getD i 0)) := (hb0.cell (p := ⟨b, off + i, none⟩) hblt).trans hcell
    have hbC : b ≠ C := by show b ≠ C; have : b < w0.heap.size := hblt; omega
    have hbC2 : ¬ C = b := fun e => hbC e.symm
    have hlt' : (i : Int) < (n : Int) := by omega
    have hi0 : (0 : Int) ≤ (i : Int) := by omega
    clear hcell hcode hh hb0
    generalize zs.getD i 0 = Z at *
    go_enter Try.func65, Try.ntmps65
    go_wp2
    go_quiet (fail)
    go_wp2
    go_quiet (fail)
    go_wp2
    go_quiet (fail)
    go_wp2
    go_ret
    refine ⟨_, rfl, and255 _, ⟨hC, ?_, i + 1, wrap64 (wrap64 (h * 6364136223846793005) + 1442695040888963407), by omega, ?_⟩, ?_⟩
    · exact belowN ((belowN (HB.out.setCell (p := ⟨C, 2, none⟩) hC _) _).setCell (p := ⟨C, 1, none⟩) hC _) 0
    · exact heap_setCell_same _ C 1 _ 80 _ (H2.out _)
    · exact (((Eff.refl C w).setCell 2 _).drewN _).setCell 1 _
  · have hge : ¬ (i : Int) < (n : Int) := by omega
    have hd : decide ((i : Int) < (n : Int)) = false := by simpa using hge
    clear hcode hh hb0
    go_enter Try.func65, Try.ntmps65
    go_wp2
    go_quiet (fail)
    go_wp2
    go_quiet (fail)
    go_wp2
    go_ret
    refine ⟨_, rfl, and255 _, ⟨hC, ?_, i, wrap64 (wrap64 (h * 6364136223846793005) + 1442695040888963407), by omega, ?_⟩, ?_⟩
    · exact belowN (belowN (HB.out.setCell (p := ⟨C, 2, none⟩) hC _) _) _
    · exact H2.out _
    · exact (((Eff.refl C w).setCell 2 _).drewN _).drewN _

set_option maxHeartbeats 800000 in
theorem new_any (ao : Option Addr) (n cap : Nat) (zs : List Int) (w : World) (hcode : Code w ao n zs) :
    Calls Try.prog 31 #[.slice ao n cap] w fun e w' => ∃ C, e = .returned (.pointer (some ⟨C, 0, none⟩)) ∧ Cur w ao n cap C w' ∧ Below w.heap.size w w' := by
  have hn := hcode.1
  have HV := hid hcode
  clear hcode
  go_enter Try.func31, Try.ntmps31
  go_wp2
  go_loop [3, 4] (fun h i => ∃ (k : Nat) (y : Int), k ≤ n ∧ i = .int .i64 k ∧ h = .int .i64 y) (fun _ i => n - (intOf i).toNat)
  case atStart => exact ⟨0, _, by omega, rfl, rfl⟩
  case round =>
    obtain ⟨k, y, hk, rfl, rfl⟩ := hrel
    by_cases hlt : k < n ∧ k < 4000
    · obtain ⟨h1, h2⟩ := hlt
      obtain ⟨b, off, rfl, hc⟩ := HV.out.2.1.2 k h1
      have h1' : (k : Int) < (n : Int) := by omega
      have h2' : (k : Int) < 4000 := by omega
      generalize zs.getD k 0 = Z at *
      go_wp2
      go_round
      case rel => exact ⟨k + 1, _, by omega, by go_num, rfl⟩
      case measure => simp [intOf]; omega
    · have fin : ∀ h : Int, Cur w ao n cap w.heap.size (w.alloc (.cells #[.slice ao n cap, .int .i64 0, .int .i64 h] 80)) := fun h =>
        ⟨Nat.le_refl _, (Below.refl _ _).alloc (Nat.le_refl _) _, 0, h, by omega, heap_alloc_new w _⟩
      have FIN := hid fin
      clear fin
      by_cases h1 : (k : Int) < (n : Int)
      · have h2 : ¬ (k : Int) < 4000 := by omega
        clear hlt
        go_wp2
        go_ret
        exact ⟨w.heap.size, rfl, FIN.out _, (Below.refl _ _).alloc (Nat.le_refl _) _⟩
      · clear hlt
        go_wp2
        go_ret
        exact ⟨w.heap.size, rfl, FIN.out _, (Below.refl _ _).alloc (Nat.le_refl _) _⟩

set_option maxHeartbeats 1600000 in
theorem below_any (w0 : World) (ao : Option Addr) (n cap C : Nat) (zs : List Int) (m : Int) (w : World) (hcode : Code w0 ao n zs) (hcur : Cur w0 ao n cap C w) :
    Calls Try.prog 47 #[.pointer (some ⟨C, 0, none⟩), .int .i64 m] w fun e w' => ∃ x : Int, e = .returned (.int .i64 x) ∧ (0 ≤ x ∧ (x < m ∨ x = 0)) ∧ Cur w0 ao n cap C w' ∧ Eff C w w' := by
  have HC := hid hcode
  have HU := hid hcur
  clear hcode hcur
  by_cases h0 : m ≤ 0
  · go_enter Try.func47, Try.ntmps47
    go_wp2
    go_ret
    exact ⟨0, rfl, ⟨Int.le_refl _, .inr rfl⟩, HU.out, Eff.refl _ _⟩
  · by_cases h1 : m ≤ 256
    · go_enter Try.func47, Try.ntmps47
      go_wp2_with fail
      refine (byte_any w0 ao n cap C zs _ HC.out HU.out).mono ?_
      rintro e w1 ⟨x, rfl, ⟨x0, x1⟩, hc1, he1⟩
      have HC1 := hid hc1
      have HE1 := hid he1
      have t0 := Int.emod_nonneg x (show m ≠ 0 by omega)
      have t1 := Int.emod_lt_of_pos x (show 0 < m by omega)
      have t2 : x.tmod m = x % m := Int.tmod_eq_emod_of_nonneg x0
      clear hc1 he1
      go_wp2
      go_ret
      exact ⟨_, rfl, ⟨t0, .inl t1⟩, HC1.out, HE1.out⟩
    · go_enter Try.func47, Try.ntmps47
      go_wp2_with fail
      refine (byte_any w0 ao n cap C zs _ HC.out HU.out).mono ?_
      rintro e w1 ⟨x, rfl, ⟨x0, x1⟩, hc1, he1⟩
      have HC1 := hid hc1
      have HE1 := hid he1
      clear hc1 he1
      go_wp2_with fail
      refine (byte_any w0 ao n cap C zs _ HC.out HC1.out).mono ?_
      rintro e w2 ⟨y, rfl, ⟨y0, y1⟩, hc2, he2⟩
      have HC2 := hid hc2
      have HE2 := hid (HE1.out.trans he2)
      clear hc2 he2
      go_wp2_with fail
      refine (byte_any w0 ao n cap C zs _ HC.out HC2.out).mono ?_
      rintro e w3 ⟨z, rfl, ⟨z0, z1⟩, hc3, he3⟩
      have HC3 := hid hc3
      have HE3 := hid (HE2.out.trans he3)
      clear hc3 he3
      go_wp2_with fail
      refine (byte_any w0 ao n cap C zs _ HC.out HC3.out).mono ?_
      rintro e w4 ⟨t, rfl, ⟨u0, u1⟩, hc4, he4⟩
      have HC4 := hid hc4
      have HE4 := hid (HE3.out.trans he4)
      have s0 : 0 ≤ x * 16777216 + y * 65536 + z * 256 + t := by omega
      have t0 := Int.emod_nonneg (x * 16777216 + y * 65536 + z * 256 + t) (show m ≠ 0 by omega)
      have t1 := Int.emod_lt_of_pos (x * 16777216 + y * 65536 + z * 256 + t) (show 0 < m by omega)
      have t2 : (x * 16777216 + y * 65536 + z * 256 + t).tmod m = (x * 16777216 + y * 65536 + z * 256 + t) % m := Int.tmod_eq_emod_of_nonneg s0
      clear hc4 he4
      go_wp2
      go_ret
      exact ⟨_, rfl, ⟨t0, .inl t1⟩, HC4.out, HE4.out⟩

theorem once_any (w0 : World) (ao : Option Addr) (n cap C : Nat) (zs : List Int) (m : Int) (w : World) (hcode : Code w0 ao n zs) (hcur : Cur w0 ao n cap C w) :
    Calls Try.prog 55 #[.pointer (some ⟨C, 0, none⟩), .int .i64 m] w fun e w' => ∃ b : Bool, e = .returned (.bool b) ∧ Cur w0 ao n cap C w' ∧ Eff C w w' := by
  have HF := hid (below_any w0 ao n cap C zs m w hcode hcur)
  clear hcode hcur
  go_enter Try.func55, Try.ntmps55
  go_wp2_with fail
  refine HF.out.mono ?_
  rintro e w1 ⟨x, rfl, hx, hc1, he1⟩
  have HC1 := hid hc1
  have HE1 := hid he1
  clear hc1 he1 hx
  go_wp2
  go_ret
  exact ⟨_, rfl, HC1.out, HE1.out⟩


set_option maxHeartbeats 800000 in
/-- One of the numbers of a list that is not empty. -/
theorem pick_any (w0 : World) (ao : Option Addr) (n cap C : Nat) (zs : List Int) (g k kc : Nat) (ys : List Int) (w : World) (hcode : Code w0 ao n zs) (hcur : Cur w0 ao n cap C w) (hk : 0 < k) (hkl : ys.length = k) (hk2 : k ≤ 1000)
    (hg : C < g) (hcells : ∀ j, j < k → w.cell? ⟨g, j, none⟩ = some (.int .i64 (ys.getD j 0))) :
    Calls Try.prog 49 #[.pointer (some ⟨C, 0, none⟩), .slice (some ⟨g, 0, none⟩) k kc] w fun e w' => ∃ j, j < k ∧ e = .returned (.int .i64 (ys.getD j 0)) ∧ Cur w0 ao n cap C w' ∧ Eff C w w' := by
  have HF := hid (below_any w0 ao n cap C zs k w hcode hcur)
  have HC := hid hcells
  clear hcode hcur hcells
  go_enter Try.func49, Try.ntmps49
  go_wp2_with fail
  refine HF.out.mono ?_
  rintro e w1 ⟨x, rfl, ⟨hx0, hx1⟩, hc1, he1⟩
  obtain ⟨j, rfl⟩ := Int.eq_ofNat_of_zero_le hx0
  have hj : j < k := by omega
  have hj' : (j : Int) < (k : Int) := by omega
  have hcj : w1.cell? ⟨g, j, none⟩ = some (.int .i64 (ys.getD j 0)) := he1.cell (HC.out j hj) (fun e => by have h2 : g = C := Option.some.inj e; omega)
  have HC1 := hid hc1
  have HE1 := hid he1
  clear hc1 he1 hx1
  generalize hY : ys.getD j 0 = Y at *
  have HY := hid hY
  clear hY
  go_wp2
  go_ret
  exact ⟨j, hj, ret_int HY.out.symm, HC1.out, HE1.out⟩
end Go.Proofs.Ytmdmolofiblbmaa
