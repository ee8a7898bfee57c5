/- Contracts of what FnModel draws, starts with and compares. -/
import Derived.Test.YtimafabbepgifaaRows
import Derived.Test.YtimafabbepgifaaView
import Derived.Deep.QuietTactic
import Derived.BigQuiet
import Derived.Test.YtimafabbepgifaaRr
import Derived.Test.YtimafabbepgifaaMc
namespace Go.Proofs.Ytimafabbepgifaa
open Go.RowKit
set_option linter.unusedVariables false


theorem Try.drawInfo3 : (Try.prog.info? 3).map (fun i => (i.zero, i.size, i.bytes)) = some (some (.int .i64 0), 1, 8) := by kernel_rfl
theorem Try.drawInfo5 : (Try.prog.info? 5).map (fun i => (i.zero, i.size, i.bytes)) = some (some (.int .u8 0), 1, 1) := by kernel_rfl

/-- Of what was there, nothing but block C has turned. -/
def Eff (C : Nat) (w w' : World) : Prop := w.grownBy w' (some C)
theorem Eff.refl (C : Nat) (w : World) : Eff C w w := World.grownBy.refl w _
theorem Eff.trans {C : Nat} {a b c : World} (h : Eff C a b) (k : Eff C b c) : Eff C a c :=
  ⟨k.os.trans h.os, k.tape.trans h.tape, k.output.trans h.output, Nat.le_trans h.size k.size, fun i hi hne => (k.block i (Nat.lt_of_lt_of_le hi h.size) hne).trans (h.block i hi hne)⟩
theorem Eff.setCell {C : Nat} {a w : World} (h : Eff C a w) (j : Nat) (u : Value) : Eff C a (w.setCell ⟨C, j, none⟩ u) :=
  h.trans ⟨rfl, rfl, rfl, by simp [World.setCell], fun k hk hne => Below.heap_setCell _ _ _ _ (fun e => hne (by rw [e]))⟩
theorem Eff.drewN {C : Nat} {a w : World} (h : Eff C a w) (n : Nat) : Eff C a (w.drewN n) := ⟨h.os, h.tape, h.output, h.size, h.block⟩
theorem Eff.drew {C : Nat} {a w : World} (h : Eff C a w) : Eff C a w.drew := ⟨h.os, h.tape, h.output, h.size, h.block⟩
theorem Eff.alloc {C : Nat} {a w : World} (h : Eff C a w) (o : Obj) : Eff C a (w.alloc o) := h.trans (World.grownBy_alloc w o _)
theorem Eff.below {C : Nat} {w w' : World} (h : Eff C w w') (hC : C ≤ w.heap.size) : Below C w w' := ⟨h.os, h.tape, h.output, h.size, fun k hk => h.block k (by omega) (fun e => by have := Option.some.inj e; omega)⟩
theorem Eff.ofBelow {C : Nat} {a w w' : World} (h : Eff C a w) (hb : Below a.heap.size w w') : Eff C a w' :=
  ⟨hb.os.trans h.os, hb.tape.trans h.tape, hb.output.trans h.output, Nat.le_trans h.size hb.size, fun k hk hne => (hb.block k hk).trans (h.block k hk hne)⟩
theorem Eff.own {C base : Nat} {w w' : World} {e : TypeId} {k : IntKind} {v : Value} {xs : List Int} (ho : Own w base e k v xs) (h : Eff C w w') (hb : C < base) : Own w' base e k v xs := by
  refine ⟨Nat.le_trans ho.1 h.size, ho.2.1, ?_⟩
  rcases ho.2.2 with h0 | ⟨g, cap, cur, hv, hg, hh, r⟩
  · exact .inl h0
  · exact .inr ⟨g, cap, cur, hv, hg, (h.block g (Array.getElem?_eq_some_iff.1 hh).1 (fun e => by have := Option.some.inj e; omega)).trans hh, r⟩

/-- The code that is drawn from: bytes that lie in the memory of w0. -/
def Code (w0 : World) (ao : Option Addr) (n : Nat) (zs : List Int) : Prop := n ≤ 1048576 ∧ View .u8 w0 ao n zs ∧ ∀ x ∈ zs, (Lit.int .u8 x).wf = true

/-- The cursor lies at block C. -/
def Cur (w0 : World) (ao : Option Addr) (n cap C : Nat) (w : World) : Prop :=
  w0.heap.size ≤ C ∧ Below w0.heap.size w0 w ∧ ∃ (i : Nat) (h : Int), i ≤ n ∧ w.heap[C]? = some (.cells #[.slice ao n cap, .int .i64 i, .int .i64 h] 97 (0, 0))

theorem cur_cells {w : World} {C : Nat} {ao : Option Addr} {n cap : Nat} {i h : Int} (hw : w.heap[C]? = some (.cells #[.slice ao n cap, .int .i64 i, .int .i64 h] 97 (0, 0))) :
    w.cell? ⟨C, 0, none⟩ = some (.slice ao n cap) ∧ w.cell? ⟨C, 1, none⟩ = some (.int .i64 i) ∧ w.cell? ⟨C, 2, none⟩ = some (.int .i64 h) ∧ w.frozen? ⟨C, 0, none⟩ = false ∧ w.frozen? ⟨C, 1, none⟩ = false ∧ w.frozen? ⟨C, 2, none⟩ = false := by
  simp [World.cell?, World.frozen?, hw]

theorem Cur.lt {w0 w : World} {ao : Option Addr} {n cap C : Nat} (h : Cur w0 ao n cap C w) : C < w.heap.size := by
  obtain ⟨_, _, i, x, _, hh⟩ := h
  exact (Array.getElem?_eq_some_iff.1 hh).1

/-- Whatever leaves the old blocks alone leaves the cursor alone. -/
theorem Cur.below {w0 w w' : World} {ao : Option Addr} {n cap C : Nat} (h : Cur w0 ao n cap C w) (hb : Below w.heap.size w w') : Cur w0 ao n cap C w' := by
  have hlt := h.lt
  obtain ⟨h1, h2, i, x, hi, hh⟩ := h
  exact ⟨h1, h2.trans (hb.mono h2.size), i, x, hi, (hb.block C hlt).trans hh⟩

theorem and255 (y : Int) : 0 ≤ bits .and .i64 y 255 ∧ bits .and .i64 y 255 ≤ 255 := by
  have hle : (BitVec.ofInt 64 y &&& BitVec.ofInt 64 255).toNat ≤ 255 := by
    rw [BitVec.toNat_and]
    exact Nat.le_trans Nat.and_le_right (by decide)
  have h : bits .and .i64 y 255 = IntKind.i64.wrap ((BitVec.ofInt 64 y &&& BitVec.ofInt 64 255).toNat : Int) := rfl
  rw [h, IntKind.wrap_i64]
  generalize (BitVec.ofInt 64 y &&& BitVec.ofInt 64 255).toNat = m at *
  omega

set_option maxRecDepth 100000 in
set_option maxHeartbeats 1600000 in
theorem byte_any (w0 : World) (ao : Option Addr) (n cap C : Nat) (zs : List Int) (w : World) (hcode : Code w0 ao n zs) (hcur : Cur w0 ao n cap C w) :
    Calls Try.prog 59 #[.pointer (some ⟨C, 0, none⟩)] w fun e w' => ∃ x : Int, e = .returned (.int .i64 x) ∧ (0 ≤ x ∧ x ≤ 255) ∧ Cur w0 ao n cap C w' ∧ Eff C w w' := by
  obtain ⟨hC, hb0, i, h, hi, hh⟩ := hcur
  obtain ⟨c0, c1, c2, f0, f1, f2⟩ := cur_cells hh
  have hn := hcode.1
  have HH := hid hh
  have HB := hid hb0
  have h2 : ∀ y : Int, (w.setCell ⟨C, 2, none⟩ (.int .i64 y)).heap[C]? = some (.cells #[.slice ao n cap, .int .i64 i, .int .i64 y] 97 (0, 0)) := fun y => heap_setCell_same w C 2 _ 97 _ hh
  have H2 := hid h2
  clear h2
  by_cases hlt : i < n
  · obtain ⟨b, off, rfl, hcell⟩ := hcode.2.1.2 i hlt
    have hblt := World.block_lt_of_cell? w0 _ hcell
    have hcr : w.cell? ⟨b, off + i, none⟩ = some (.int .u8 (zs.getD i 0)) := (hb0.cell (p := ⟨b, off + i, none⟩) hblt).trans hcell
    have hbC : b ≠ C := by show b ≠ C; have : b < w0.heap.size := hblt; omega
    have hbC2 : ¬ C = b := fun e => hbC e.symm
    have hlt' : (i : Int) < (n : Int) := by omega
    have hi0 : (0 : Int) ≤ (i : Int) := by omega
    clear hcell hcode hh hb0
    generalize zs.getD i 0 = Z at *
    go_enter Try.func59, Try.ntmps59
    go_wp2
    go_quiet (fail)
    go_wp2
    go_quiet (fail)
    go_wp2
    go_quiet (fail)
    go_wp2
    go_ret
    refine ⟨_, rfl, and255 _, ⟨hC, ?_, i + 1, wrap64 (wrap64 (h * 6364136223846793005) + 1442695040888963407), by omega, ?_⟩, ?_⟩
    · exact belowN ((belowN (HB.out.setCell (p := ⟨C, 2, none⟩) hC _) _).setCell (p := ⟨C, 1, none⟩) hC _) 0
    · exact heap_setCell_same _ C 1 _ 97 _ (H2.out _)
    · exact (((Eff.refl C w).setCell 2 _).drewN _).setCell 1 _
  · have hge : ¬ (i : Int) < (n : Int) := by omega
    have hd : decide ((i : Int) < (n : Int)) = false := by simpa using hge
    clear hcode hh hb0
    go_enter Try.func59, Try.ntmps59
    go_wp2
    go_quiet (fail)
    go_wp2
    go_quiet (fail)
    go_wp2
    go_ret
    refine ⟨_, rfl, and255 _, ⟨hC, ?_, i, wrap64 (wrap64 (h * 6364136223846793005) + 1442695040888963407), by omega, ?_⟩, ?_⟩
    · exact belowN (belowN (HB.out.setCell (p := ⟨C, 2, none⟩) hC _) _) _
    · exact H2.out _
    · exact (((Eff.refl C w).setCell 2 _).drewN _).drewN _

set_option maxHeartbeats 800000 in
theorem new_any (ao : Option Addr) (n cap : Nat) (zs : List Int) (w : World) (hcode : Code w ao n zs) :
    Calls Try.prog 29 #[.slice ao n cap] w fun e w' => ∃ C, e = .returned (.pointer (some ⟨C, 0, none⟩)) ∧ Cur w ao n cap C w' ∧ Below w.heap.size w w' := by
  have hn := hcode.1
  have HV := hid hcode
  clear hcode
  go_enter Try.func29, Try.ntmps29
  go_wp2
  go_loop [3, 4] (fun h i => ∃ (k : Nat) (y : Int), k ≤ n ∧ i = .int .i64 k ∧ h = .int .i64 y) (fun _ i => n - (intOf i).toNat)
  case atStart => exact ⟨0, _, by omega, rfl, rfl⟩
  case round =>
    obtain ⟨k, y, hk, rfl, rfl⟩ := hrel
    by_cases hlt : k < n ∧ k < 4000
    · obtain ⟨h1, h2⟩ := hlt
      obtain ⟨b, off, rfl, hc⟩ := HV.out.2.1.2 k h1
      have h1' : (k : Int) < (n : Int) := by omega
      have h2' : (k : Int) < 4000 := by omega
      generalize zs.getD k 0 = Z at *
      go_wp2
      go_round
      case rel => exact ⟨k + 1, _, by omega, by go_num, rfl⟩
      case measure => simp [intOf]; omega
    · have fin : ∀ h : Int, Cur w ao n cap w.heap.size (w.alloc (.cells #[.slice ao n cap, .int .i64 0, .int .i64 h] 97)) := fun h =>
        ⟨Nat.le_refl _, (Below.refl _ _).alloc (Nat.le_refl _) _, 0, h, by omega, heap_alloc_new w _⟩
      have FIN := hid fin
      clear fin
      by_cases h1 : (k : Int) < (n : Int)
      · have h2 : ¬ (k : Int) < 4000 := by omega
        clear hlt
        go_wp2
        go_ret
        exact ⟨w.heap.size, rfl, FIN.out _, (Below.refl _ _).alloc (Nat.le_refl _) _⟩
      · clear hlt
        go_wp2
        go_ret
        exact ⟨w.heap.size, rfl, FIN.out _, (Below.refl _ _).alloc (Nat.le_refl _) _⟩

set_option maxHeartbeats 1600000 in
theorem below_any (w0 : World) (ao : Option Addr) (n cap C : Nat) (zs : List Int) (m : Int) (w : World) (hcode : Code w0 ao n zs) (hcur : Cur w0 ao n cap C w) :
    Calls Try.prog 31 #[.pointer (some ⟨C, 0, none⟩), .int .i64 m] w fun e w' => ∃ x : Int, e = .returned (.int .i64 x) ∧ (0 ≤ x ∧ (x < m ∨ x = 0)) ∧ Cur w0 ao n cap C w' ∧ Eff C w w' := by
  have HC := hid hcode
  have HU := hid hcur
  clear hcode hcur
  by_cases h0 : m ≤ 0
  · go_enter Try.func31, Try.ntmps31
    go_wp2
    go_ret
    exact ⟨0, rfl, ⟨Int.le_refl _, .inr rfl⟩, HU.out, Eff.refl _ _⟩
  · by_cases h1 : m ≤ 256
    · go_enter Try.func31, Try.ntmps31
      go_wp2_with fail
      refine (byte_any w0 ao n cap C zs _ HC.out HU.out).mono ?_
      rintro e w1 ⟨x, rfl, ⟨x0, x1⟩, hc1, he1⟩
      have HC1 := hid hc1
      have HE1 := hid he1
      have t0 := Int.emod_nonneg x (show m ≠ 0 by omega)
      have t1 := Int.emod_lt_of_pos x (show 0 < m by omega)
      have t2 : x.tmod m = x % m := Int.tmod_eq_emod_of_nonneg x0
      clear hc1 he1
      go_wp2
      go_ret
      exact ⟨_, rfl, ⟨t0, .inl t1⟩, HC1.out, HE1.out⟩
    · go_enter Try.func31, Try.ntmps31
      go_wp2_with fail
      refine (byte_any w0 ao n cap C zs _ HC.out HU.out).mono ?_
      rintro e w1 ⟨x, rfl, ⟨x0, x1⟩, hc1, he1⟩
      have HC1 := hid hc1
      have HE1 := hid he1
      clear hc1 he1
      go_wp2_with fail
      refine (byte_any w0 ao n cap C zs _ HC.out HC1.out).mono ?_
      rintro e w2 ⟨y, rfl, ⟨y0, y1⟩, hc2, he2⟩
      have HC2 := hid hc2
      have HE2 := hid (HE1.out.trans he2)
      clear hc2 he2
      go_wp2_with fail
      refine (byte_any w0 ao n cap C zs _ HC.out HC2.out).mono ?_
      rintro e w3 ⟨z, rfl, ⟨z0, z1⟩, hc3, he3⟩
      have HC3 := hid hc3
      have HE3 := hid (HE2.out.trans he3)
      clear hc3 he3
      go_wp2_with fail
      refine (byte_any w0 ao n cap C zs _ HC.out HC3.out).mono ?_
      rintro e w4 ⟨t, rfl, ⟨u0, u1⟩, hc4, he4⟩
      have HC4 := hid hc4
      have HE4 := hid (HE3.out.trans he4)
      have s0 : 0 ≤ x * 16777216 + y * 65536 + z * 256 + t := by omega
      have t0 := Int.emod_nonneg (x * 16777216 + y * 65536 + z * 256 + t) (show m ≠ 0 by omega)
      have t1 := Int.emod_lt_of_pos (x * 16777216 + y * 65536 + z * 256 + t) (show 0 < m by omega)
      have t2 : (x * 16777216 + y * 65536 + z * 256 + t).tmod m = (x * 16777216 + y * 65536 + z * 256 + t) % m := Int.tmod_eq_emod_of_nonneg s0
      clear hc4 he4
      go_wp2
      go_ret
      exact ⟨_, rfl, ⟨t0, .inl t1⟩, HC4.out, HE4.out⟩

theorem once_any (w0 : World) (ao : Option Addr) (n cap C : Nat) (zs : List Int) (m : Int) (w : World) (hcode : Code w0 ao n zs) (hcur : Cur w0 ao n cap C w) :
    Calls Try.prog 32 #[.pointer (some ⟨C, 0, none⟩), .int .i64 m] w fun e w' => ∃ b : Bool, e = .returned (.bool b) ∧ Cur w0 ao n cap C w' ∧ Eff C w w' := by
  have HF := hid (below_any w0 ao n cap C zs m w hcode hcur)
  clear hcode hcur
  go_enter Try.func32, Try.ntmps32
  go_wp2_with fail
  refine HF.out.mono ?_
  rintro e w1 ⟨x, rfl, hx, hc1, he1⟩
  have HC1 := hid hc1
  have HE1 := hid he1
  clear hc1 he1 hx
  go_wp2
  go_ret
  exact ⟨_, rfl, HC1.out, HE1.out⟩

theorem size_any (ao : Option Addr) (n cap : Nat) (m : Int) (w : World) (hn : n ≤ 1048576) (hm : 2 ≤ m) :
    Calls Try.prog 30 #[.slice ao n cap, .int .i64 m] w fun e w' => ∃ x : Int, e = .returned (.int .i64 x) ∧ (2 ≤ x ∧ x ≤ m) ∧ w = w' := by
  by_cases h : m < 2 + (n : Int) / 20
  · go_enter Try.func30, Try.ntmps30
    go_wp2
    go_ret
    exact ⟨_, rfl, ⟨hm, Int.le_refl _⟩, rfl⟩
  · go_enter Try.func30, Try.ntmps30
    go_wp2
    go_ret
    exact ⟨_, rfl, ⟨by omega, by omega⟩, rfl⟩


set_option maxHeartbeats 800000 in
/-- Two slices that read as the same numbers. -/
theorem same_same (ao bo : Option Addr) (n cap cap' : Nat) (xs : List Int) (w : World) (hn : n ≤ 4194304) (ha : View .i64 w ao n xs) (hb : View .i64 w bo n xs) :
    Calls Try.prog 15 #[.slice ao n cap, .slice bo n cap'] w fun e w' => e = .returned (.bool true) ∧ Below w.heap.size w w' := by
  have HA := show Hid _ from ha
  have HB := show Hid _ from hb
  clear ha hb
  go_enter Try.func15, Try.ntmps15
  go_wp2
  go_loopw [5] (fun i wr => ∃ k : Nat, k ≤ n ∧ i = .int .i64 k ∧ ∃ q, wr = w.drewN q) (fun i _ => n - (intOf i).toNat)
  case atStart => exact ⟨0, by omega, rfl, 0, rfl⟩
  case round =>
    obtain ⟨k, hk, rfl, q, rfl⟩ := hrel
    by_cases hlt : k < n
    · obtain ⟨b, off, rfl, hc⟩ := HA.out.2 k hlt
      obtain ⟨b', off', rfl, hc'⟩ := HB.out.2 k hlt
      have hlt' : (k : Int) < (n : Int) := by omega
      generalize xs.getD k 0 = X at *
      go_wp2
      go_quiet (fail)
      go_wp2
      go_roundw
      case rel => exact ⟨k + 1, by omega, by go_num, _, rfl⟩
      case measure => simp [intOf]; omega
    · obtain rfl : k = n := by omega
      go_wp2
      go_ret
      exact ⟨rfl, belowN (Below.refl _ _) _⟩
theorem hid_shapeD {w : World} {base : Nat} {e : TypeId} {k : IntKind} {v : Value} {xs : List Int} (h : Hid (Own w base e k v xs)) : ∃ ao cap, v = .slice ao xs.length cap := h.out.shape
theorem big_any (ao : Option Addr) (n cap : Nat) (w : World) :
    Calls Try.prog 6 #[.slice ao n cap] w fun e w' => e = .returned (.bool (decide ((1048576 : Int) < (n : Int)))) ∧ w = w' := by
  go_enter Try.func6, Try.ntmps6
  go_wp2
  go_ret
  exact ⟨rfl, rfl⟩
theorem coder_start (s : ByteArray) (w : World) :
    Calls Try.prog 9 #[.string s] w fun e w' => e = .returned (cV 0 4294967295 s) ∧ Below w.heap.size w w' := by
  unfold cV
  have HW := hid (fun q => impl_widest q)
  have HB0 := hid ((Below.refl w.heap.size w).alloc (Nat.le_refl _) (.cells #[.int .u32 0, .int .u32 0, .string ⟨#[]⟩] 32))
  have HN := hid (Blk.new w [.int .u32 0, .int .u32 0, .string ⟨#[]⟩] 32)
  go_enter Try.func9, Try.ntmps9
  go_wp2_with fail
  refine (HW.out _).mono ?_
  generalize w.alloc (.cells #[.int .u32 0, .int .u32 0, .string ⟨#[]⟩] 32) = W0 at *
  rintro e w1 ⟨rfl, hb1⟩
  have N1 := hid (HN.out.below hb1 HN.out.lt)
  have B1 := hid (HB0.out.trans (hb1.mono HB0.out.size))
  have q0 := N1.out.cell (i := 0) rfl
  have q1 := N1.out.cell (i := 1) rfl
  have q2 := N1.out.cell (i := 2) rfl
  have z0 := N1.out.free 0
  have z1 := N1.out.free 1
  have z2 := N1.out.free 2
  have hlt : w.heap.size < w1.heap.size := N1.out.lt
  have hne : ¬ w.heap.size = w1.heap.size := Nat.ne_of_lt N1.out.lt
  clear hb1 HN HB0
  go_wp2_with fail
  refine bodyPost_ret (v := .agg #[.int .u32 0, .int .u32 4294967295, .string s]) (by simp [results, Try.results9, go_sem, q0, q1, q2, hlt]) rfl ?_
  refine ⟨rfl, ?_⟩
  have b3 := ((B1.out.setCell (p := ⟨w.heap.size, 0, none⟩) (Nat.le_refl _) (.int .u32 0)).setCell (p := ⟨w.heap.size, 1, none⟩) (Nat.le_refl _) (.int .u32 4294967295)).setCell (p := ⟨w.heap.size, 2, none⟩) (Nat.le_refl _) (.string s)
  exact b3.alloc b3.size _
theorem code_row {w : World} {ao : Option Addr} {n cap : Nat} {zs : List Int} (hr : IsRow .u8 w ao n cap zs) (hn : n ≤ 1048576) : Code w ao n (zs.take n) := ⟨hn, hr.view, hr.wf⟩
theorem Cur.belowB {w0 w w' : World} {ao : Option Addr} {n cap C B : Nat} (h : Cur w0 ao n cap C w) (hB : C < B) (hb : Below B w w') : Cur w0 ao n cap C w' := by
  obtain ⟨h1, h2, i, x, hi, hh⟩ := h
  exact ⟨h1, h2.trans (hb.mono (by omega)), i, x, hi, (hb.block C hB).trans hh⟩

set_option maxRecDepth 100000 in
set_option maxHeartbeats 3200000 in
theorem draw_nums (ao : Option Addr) (n cap : Nat) (zs : List Int) (w : World) (hcode : Code w ao n zs) :
    Calls Try.prog 7 #[.slice ao n cap] w fun e w' => ∃ v xs, e = .returned v ∧ xs.length ≤ 60 ∧ (∀ x ∈ xs, -2047 ≤ x ∧ x ≤ 2047) ∧ Own w' w.heap.size 3 .i64 v xs ∧ Below w.heap.size w w' := by
  have HC := hid hcode
  have hn := hcode.1
  have HSZ := hid (fun q => size_any ao n cap 60 q hn (by decide))
  clear hcode
  go_enter Try.func7, Try.ntmps7
  go_wp2_with fail
  refine (new_any ao n cap zs w HC.out).mono ?_
  rintro e w1 ⟨C, rfl, hc1, hb1⟩
  have HC1 := hid hc1
  have B1 := hid hb1
  have hCw := hc1.1
  have hlt := hc1.lt
  have HCA := hid (hc1.below ((Below.refl w1.heap.size w1).alloc (Nat.le_refl _) (.cells #[] 3)))
  have HOA := hid (Own.empty w1 3 .i64 w1.heap.size (Nat.le_refl _))
  have HEA := hid ((Eff.refl C w1).alloc (.cells #[] 3))
  clear hc1 hb1
  go_wp2_with fail
  refine (HSZ.out _).mono ?_
  rintro e w2 ⟨y, rfl, ⟨hy0, hy1⟩, rfl⟩
  obtain ⟨m, rfl⟩ := Int.eq_ofNat_of_zero_le (show 0 ≤ y by omega)
  have hm : m ≤ 60 := by omega
  clear hy0 hy1 HSZ
  go_wp2_with fail
  go_loopw [4, 6] (fun v i wr => ∃ (k : Nat) (xs : List Int), k ≤ m ∧ i = .int .i64 k ∧ Hid (xs.length = k ∧ ∀ x ∈ xs, -2047 ≤ x ∧ x ≤ 2047) ∧ Hid (Own wr w1.heap.size 3 .i64 v xs) ∧ Hid (Cur w ao n cap C wr) ∧ Hid (Eff C w1 wr)) (fun _ i _ => m - (intOf i).toNat)
  case atStart => exact ⟨0, [], by omega, rfl, ⟨rfl, fun x hx => by simp at hx⟩, HOA.out, HCA.out, HEA.out⟩
  case round =>
    obtain ⟨k, xs, hk, rfl, hxs, hown, hcur, heff⟩ := hrel
    clear HCA HOA HEA
    by_cases hkm : k < m
    · have hkm' : (k : Int) < (m : Int) := by omega
      go_wp2_with fail
      refine (below_any w ao n cap C zs 7 _ HC.out hcur.out).mono ?_
      rintro e w3 ⟨x, rfl, ⟨hx0, hx1⟩, hc3, he3⟩
      have hx6 : x ≤ 6 := by omega
      have O3 := hid (Eff.own hown.out he3 hlt)
      have E3 := hid (heff.out.trans he3)
      have C3 := hid hc3
      have hlen : xs.length < 1000000000000 := by have := hxs.out.1; omega
      clear hc3 he3 hx1
      go_wp2_with fail
      refine (once_any w ao n cap C zs 4 _ HC.out C3.out).mono ?_
      rintro e w4 ⟨b, rfl, hc4, he4⟩
      have O4 := hid (Eff.own O3.out he4 hlt)
      have E4 := hid (E3.out.trans he4)
      have C4 := hid hc4
      clear hc4 he4 O3 E3 C3
      cases b with
      | false =>
        have HX := hid (show -2047 ≤ x - 3 ∧ x - 3 ≤ 2047 by omega)
        generalize hX : x - 3 = X at *
        clear hX
        go_wp2_with (at_builtin; refine wpList_push _ rfl _ _ 24 rfl _ 3 .i64 0 8 Try.underlying24 Try.info3 _ _ rfl O4.out X rfl hlen (by decide) ?_)
        intro v5 w5 hown5 hb5
        have O5 := hid hown5
        have C5 := hid (C4.out.belowB hlt hb5)
        have E5 := hid (E4.out.ofBelow hb5)
        clear hown5 hb5
        go_wp2_with fail
        go_roundw
        case rel => exact ⟨k + 1, xs ++ [X], by omega, by go_num, ⟨by simp [hxs.out.1], fun z hz => by
          rcases List.mem_append.1 hz with h | h
          · exact hxs.out.2 z h
          · simp at h
            subst h
            exact HX.out⟩, O5.out, C5.out, E5.out⟩
        case measure => simp [intOf]; omega
      | true =>
        go_wp2_with fail
        refine (below_any w ao n cap C zs 4095 _ HC.out C4.out).mono ?_
        rintro e w5 ⟨z, rfl, ⟨hz0, hz1⟩, hc5, he5⟩
        have O5 := hid (Eff.own O4.out he5 hlt)
        have E5 := hid (E4.out.trans he5)
        have C5 := hid hc5
        have hz2 : z ≤ 4094 := by omega
        have HX := hid (show -2047 ≤ z - 2047 ∧ z - 2047 ≤ 2047 by omega)
        clear hc5 he5 O4 E4 C4 hz1
        go_wp2_with (at_builtin; refine wpList_push _ rfl _ _ 24 rfl _ 3 .i64 0 8 Try.underlying24 Try.info3 _ _ rfl O5.out (z - 2047) rfl hlen (by decide) ?_)
        intro v6 w6 hown6 hb6
        have O6 := hid hown6
        have C6 := hid (C5.out.belowB hlt hb6)
        have E6 := hid (E5.out.ofBelow hb6)
        clear hown6 hb6
        go_wp2_with fail
        go_roundw
        case rel => exact ⟨k + 1, xs ++ [z - 2047], by omega, by go_num, ⟨by simp [hxs.out.1], fun z hz => by
          rcases List.mem_append.1 hz with h | h
          · exact hxs.out.2 z h
          · simp at h
            subst h
            exact HX.out⟩, O6.out, C6.out, E6.out⟩
        case measure => simp [intOf]; omega
    · obtain rfl : k = m := by omega
      have BW := hid (B1.out.trans ((heff.out.below (Nat.le_of_lt hlt)).mono hCw))
      have OW := hid (hown.out.lower B1.out.size)
      have HXS := hid hxs.out
      obtain ⟨a9, c9, rfl⟩ := hid_shapeD hown
      go_wp2_with fail
      go_ret
      exact ⟨_, xs, rfl, by have := HXS.out.1; omega, HXS.out.2, OW.out, BW.out⟩
end Go.Proofs.Ytimafabbepgifaa
