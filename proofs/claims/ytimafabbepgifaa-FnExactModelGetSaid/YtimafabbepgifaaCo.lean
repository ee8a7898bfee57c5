/- Contracts of the coder's small functions, of the program and of the specification. -/
import Derived.Test.YtimafabbepgifaaRows
import Derived.Test.YtimafabbepgifaaView
import Derived.Test.YtimafabbepgifaaCp
import Derived.Deep.QuietTactic
import Derived.BigQuiet
namespace Go.Proofs.Ytimafabbepgifaa
open Go.RowKit
set_option linter.unusedVariables false

theorem Try.info3 : (Try.prog.info? 3).map (fun i => (i.zero, i.size, i.bytes)) = some (some (.int .i64 0), 1, 8) := by kernel_rfl
theorem Try.info5 : (Try.prog.info? 5).map (fun i => (i.zero, i.size, i.bytes)) = some (some (.int .u8 0), 1, 1) := by kernel_rfl

theorem spec_in (x a b : Int) (w : World) :
    Calls Try.prog 51 #[.int .i64 x, .int .i64 a, .int .i64 b] w fun e w' => e = .returned (.bool (decide (a ≤ x ∧ x ≤ b))) ∧ w = w' := by
  by_cases h1 : a ≤ x <;> by_cases h2 : x ≤ b
  all_goals
    go_enter Try.func51, Try.ntmps51
    go_wp2
    go_ret
    exact ⟨by simp [h1, h2], rfl⟩

theorem spec_ch (p : Int) (w : World) :
    Calls Try.prog 72 #[.int .i64 p] w fun e w' => e = .returned (.bool (isCh p)) ∧ w = w' := by
  have HS := hid (spec_in p 1 4095 w)
  go_enter Try.func72, Try.ntmps72
  go_wp2_with fail
  refine HS.out.mono ?_
  rintro e w1 ⟨rfl, rfl⟩
  go_wp2_with fail
  go_ret
  exact ⟨ret_bool (by simp [isCh]), rfl⟩

theorem impl_ch (p : Int) (w : World) :
    Calls Try.prog 68 #[.int .i64 p] w fun e w' => e = .returned (.bool (isCh p)) ∧ w = w' := by
  by_cases h1 : 1 ≤ p <;> by_cases h2 : p < 4096
  all_goals
    go_enter Try.func68, Try.ntmps68
    go_wp2
    go_ret
    refine ⟨ret_bool ?_, rfl⟩
    simp [isCh]
    omega

theorem bit_dec (x : Int) (h1 : x ≠ 0) (h2 : x ≠ 1) : decide (0 ≤ x ∧ x ≤ 1) = false := decide_eq_false (by omega)
theorem impl_bit (x : Int) (w : World) :
    Calls Try.prog 94 #[.int .i64 x] w fun e w' => e = .returned (.bool (decide (0 ≤ x ∧ x ≤ 1))) ∧ w = w' := by
  by_cases h1 : x = 0
  · subst h1
    go_enter Try.func94, Try.ntmps94
    go_wp2
    go_ret
    exact ⟨ret_bool rfl, rfl⟩
  · by_cases h2 : x = 1
    · subst h2
      go_enter Try.func94, Try.ntmps94
      go_wp2
      go_ret
      exact ⟨ret_bool rfl, rfl⟩
    · rw [bit_dec x h1 h2]
      have h3 : (x == 1) = false := by simpa using h2
      go_enter Try.func94, Try.ntmps94
      go_wp2
      go_ret
      exact ⟨ret_bool (by simpa using h1), rfl⟩

theorem mid_val {lo hi p : Int} (hl : W32 lo) (hh : W32 hi) (h : lo ≤ hi) (h1 : 1 ≤ p) (h2 : p ≤ 4095) (hp : isCh p = true) : (lo + (hi - lo) / 4096 * p % 4294967296) % 4294967296 = cMid lo hi p := by
  obtain ⟨a, b, _⟩ := cMid_part (hi - lo) p (by omega) h1 h2
  unfold cMid
  rw [if_pos ⟨hp, h⟩]
  unfold W32 at hl hh
  generalize (hi - lo) / 4096 * p = M at *
  omega
theorem mid_no {lo hi p : Int} (h : ¬ (isCh p = true ∧ lo ≤ hi)) : lo = cMid lo hi p := by
  unfold cMid
  rw [if_neg h]

set_option maxHeartbeats 400000 in
theorem impl_mid (lo hi p : Int) (w : World) (hl : W32 lo) (hh : W32 hi) :
    Calls Try.prog 96 #[.int .u32 lo, .int .u32 hi, .int .i64 p] w fun e w' => e = .returned (.int .u32 (cMid lo hi p)) ∧ w = w' := by
  have HC := hid (impl_ch p w)
  have hl0 := hl.1
  have hl1 := hl.2
  have hh0 := hh.1
  have hh1 := hh.2
  by_cases hp : isCh p = true
  · rw [hp] at HC
    by_cases h : lo ≤ hi
    · obtain ⟨h1, h2⟩ := (isCh_iff p).1 hp
      have HM := hid (mid_val hl hh h h1 h2 hp)
      have hd : ¬ hi < lo := by omega
      generalize cMid lo hi p = M at *
      clear hl hh hp
      go_enter Try.func96, Try.ntmps96
      go_wp2_with fail
      refine HC.out.mono ?_
      rintro e w1 ⟨rfl, rfl⟩
      go_wp2_with fail
      go_ret
      exact ⟨ret_int HM.out, rfl⟩
    · have HM := hid (mid_no (lo := lo) (hi := hi) (p := p) (fun k => h k.2))
      have hd : hi < lo := by omega
      generalize cMid lo hi p = M at *
      clear hl hh hp
      go_enter Try.func96, Try.ntmps96
      go_wp2_with fail
      refine HC.out.mono ?_
      rintro e w1 ⟨rfl, rfl⟩
      go_wp2_with fail
      go_ret
      exact ⟨ret_int HM.out, rfl⟩
  · have HM := hid (mid_no (lo := lo) (hi := hi) (p := p) (fun k => hp k.1))
    rw [Bool.not_eq_true] at hp
    rw [hp] at HC
    generalize cMid lo hi p = M at *
    clear hl hh hp
    go_enter Try.func96, Try.ntmps96
    go_wp2_with fail
    refine HC.out.mono ?_
    rintro e w1 ⟨rfl, rfl⟩
    go_wp2_with fail
    go_ret
    exact ⟨ret_int HM.out, rfl⟩

set_option maxHeartbeats 400000 in
theorem spec_mid (lo hi p : Int) (w : World) (hl : W32 lo) (hh : W32 hi) :
    Calls Try.prog 99 #[.int .u32 lo, .int .u32 hi, .int .i64 p] w fun e w' => e = .returned (.int .u32 (cMid lo hi p)) ∧ w = w' := by
  have HC := hid (spec_ch p w)
  have hl0 := hl.1
  have hl1 := hl.2
  have hh0 := hh.1
  have hh1 := hh.2
  by_cases hp : isCh p = true
  · rw [hp] at HC
    by_cases h : lo ≤ hi
    · obtain ⟨h1, h2⟩ := (isCh_iff p).1 hp
      have HM := hid (mid_val hl hh h h1 h2 hp)
      have hd : ¬ hi < lo := by omega
      generalize cMid lo hi p = M at *
      clear hl hh hp
      go_enter Try.func99, Try.ntmps99
      go_wp2_with fail
      refine HC.out.mono ?_
      rintro e w1 ⟨rfl, rfl⟩
      go_wp2_with fail
      go_ret
      exact ⟨ret_int HM.out, rfl⟩
    · have HM := hid (mid_no (lo := lo) (hi := hi) (p := p) (fun k => h k.2))
      have hd : hi < lo := by omega
      generalize cMid lo hi p = M at *
      clear hl hh hp
      go_enter Try.func99, Try.ntmps99
      go_wp2_with fail
      refine HC.out.mono ?_
      rintro e w1 ⟨rfl, rfl⟩
      go_wp2_with fail
      go_ret
      exact ⟨ret_int HM.out, rfl⟩
  · have HM := hid (mid_no (lo := lo) (hi := hi) (p := p) (fun k => hp k.1))
    rw [Bool.not_eq_true] at hp
    rw [hp] at HC
    generalize cMid lo hi p = M at *
    clear hl hh hp
    go_enter Try.func99, Try.ntmps99
    go_wp2_with fail
    refine HC.out.mono ?_
    rintro e w1 ⟨rfl, rfl⟩
    go_wp2_with fail
    go_ret
    exact ⟨ret_int HM.out, rfl⟩

theorem spec_top (lo hi : Int) (w : World) (hl : W32 lo) (hh : W32 hi) :
    Calls Try.prog 100 #[.int .u32 lo, .int .u32 hi] w fun e w' => e = .returned (.bool (decide (top lo = top hi))) ∧ ∃ q, w' = w.drewN q := by
  have hl0 := hl.1
  have hl1 := hl.2
  have hh0 := hh.1
  have hh1 := hh.2
  clear hl hh
  go_enter Try.func100, Try.ntmps100
  go_wp2_with fail
  go_ret
  exact ⟨ret_bool (by unfold top; rfl), 0, rfl⟩

/-- A row of cells, by its block. -/
def Blk (w : World) (b : Nat) (l : List Value) (t : TypeId) : Prop := w.heap[b]? = some (.cells l.toArray t (0, 0))
theorem Blk.lt {w : World} {b : Nat} {l : List Value} {t : TypeId} (h : Blk w b l t) : b < w.heap.size := (Array.getElem?_eq_some_iff.1 h).1
theorem Blk.cell {w : World} {b : Nat} {l : List Value} {t : TypeId} (h : Blk w b l t) {i : Nat} {v : Value} (hv : l[i]? = some v) : w.cell? ⟨b, i, none⟩ = some v := by
  rw [cell_of_row w b i _ t (0, 0) h]
  simpa using hv
theorem Blk.free {w : World} {b : Nat} {l : List Value} {t : TypeId} (h : Blk w b l t) (i : Nat) : w.frozen? ⟨b, i, none⟩ = false := frozen_of_row w b i _ t h
theorem Blk.set {w : World} {b : Nat} {l : List Value} {t : TypeId} (h : Blk w b l t) (i : Nat) (v : Value) : Blk (w.setCell ⟨b, i, none⟩ v) b (l.set i v) t := by
  have := heap_setCell_same w b i _ t v h
  unfold Blk
  rw [this]
  simp
theorem Blk.below {w w' : World} {B b : Nat} {l : List Value} {t : TypeId} (h : Blk w b l t) (hb : Below B w w') (hB : b < B) : Blk w' b l t := (hb.block b hB).trans h
theorem Blk.other {w : World} {b : Nat} {l : List Value} {t : TypeId} (h : Blk w b l t) {a : Addr} (ha : b ≠ a.block) (v : Value) : Blk (w.setCell a v) b l t := (heap_setCell_other w a b v ha).trans h
theorem Blk.new (w : World) (l : List Value) (t : TypeId) : Blk (w.alloc (.cells l.toArray t)) w.heap.size l t := heap_alloc_new w _
/-- Of what was there only block b may have turned. -/
def Ef (b : Nat) (w w' : World) : Prop := w.grownBy w' (some b)
theorem Ef.trans {C : Nat} {a b c : World} (h : Ef C a b) (k : Ef C b c) : Ef C a c :=
  ⟨k.os.trans h.os, k.tape.trans h.tape, k.output.trans h.output, Nat.le_trans h.size k.size, fun g hg hne => (k.block g (Nat.lt_of_lt_of_le hg h.size) hne).trans (h.block g hg hne)⟩
theorem Ef.ofBelow {C : Nat} {a w : World} (hb : Below a.heap.size a w) : Ef C a w := ⟨hb.os, hb.tape, hb.output, hb.size, fun k hk _ => hb.block k hk⟩
theorem Ef.refl (C : Nat) (w : World) : Ef C w w := World.grownBy.refl w _
theorem Ef.set {C : Nat} (w : World) (j : Nat) (u : Value) : Ef C w (w.setCell ⟨C, j, none⟩ u) :=
  ⟨rfl, rfl, rfl, by simp, fun k _ hk => heap_setCell_other w ⟨C, j, none⟩ k u (fun e => hk (by rw [e]))⟩
theorem Ef.drewN {C : Nat} {a w : World} (h : Ef C a w) (n : Nat) : Ef C a (w.drewN n) := ⟨h.os, h.tape, h.output, h.size, h.block⟩
theorem Ef.below {C B : Nat} {w w' : World} (h : Ef C w w') (hC : B ≤ C) (hs : B ≤ w.heap.size) : Below B w w' := ⟨h.os, h.tape, h.output, h.size, fun k hk => h.block k (by omega) (fun e => by have := Option.some.inj e; omega)⟩
theorem Blk.ef {w w' : World} {C b : Nat} {l : List Value} {t : TypeId} (h : Blk w b l t) (he : Ef C w w') (hne : b ≠ C) : Blk w' b l t := (he.block b h.lt (fun e => hne (Option.some.inj e))).trans h

set_option maxHeartbeats 400000 in
theorem settled (b : Nat) (lo hi : Int) (r : List Value) (t : TypeId) (w : World) (hl : W32 lo) (hh : W32 hi) (hB : Blk w b (.int .u32 lo :: .int .u32 hi :: r) t) :
    Calls Try.prog 92 #[.pointer (some ⟨b, 0, none⟩)] w fun e w' => e = .returned (.bool (decide (top lo = top hi))) ∧ ∃ q, w' = w.drewN q := by
  have q0 : w.cell? ⟨b, 0, none⟩ = some (.int .u32 lo) := hB.cell rfl
  have q1 : w.cell? ⟨b, 1, none⟩ = some (.int .u32 hi) := hB.cell rfl
  have hl0 := hl.1
  have hl1 := hl.2
  have hh0 := hh.1
  have hh1 := hh.2
  clear hl hh hB
  go_enter Try.func92, Try.ntmps92
  go_wp2_with fail
  go_quiet (fail)
  go_wp2_with fail
  go_ret
  exact ⟨ret_bool (by unfold top; rfl), _, rfl⟩

theorem or255 (x : Int) (h0 : 0 ≤ x) (h : x % 256 = 0) (h1 : x < 4294967296) : bits .or .u32 x 255 = x + 255 :=
  bits_join .u32 32 (by decide) (fun n h0 h1 => by rw [IntKind.wrap_u32]; omega) 8 x 255 h0 h h1 (by decide) (by decide) (by decide)
theorem sh_val {hi : Int} (h0 : 0 ≤ hi) (h1 : hi < 4294967296) : bits .or .u32 (hi * 256 % 4294967296) 255 = sh hi := by
  rw [or255 _ (by omega) (by omega) (by omega)]
  unfold sh
  omega
theorem sl_val {lo : Int} (h0 : 0 ≤ lo) (h1 : lo < 4294967296) : lo * 256 % 4294967296 = sl lo := by
  unfold sl
  omega

set_option maxHeartbeats 400000 in
theorem shift_any (b : Nat) (lo hi : Int) (r : List Value) (t : TypeId) (w : World) (hl : W32 lo) (hh : W32 hi) (hB : Blk w b (.int .u32 lo :: .int .u32 hi :: r) t) :
    Calls Try.prog 93 #[.pointer (some ⟨b, 0, none⟩)] w fun e w' => e = .returned (.int .u8 (top lo)) ∧ Blk w' b (.int .u32 (sl lo) :: .int .u32 (sh hi) :: r) t ∧ Ef b w w' := by
  have q0 : w.cell? ⟨b, 0, none⟩ = some (.int .u32 lo) := hB.cell rfl
  have q1 : w.cell? ⟨b, 1, none⟩ = some (.int .u32 hi) := hB.cell rfl
  have z0 := hB.free 0
  have z1 := hB.free 1
  have hl0 := hl.1
  have hl1 := hl.2
  have hh0 := hh.1
  have hh1 := hh.2
  have HB := hid hB
  clear hl hh hB
  go_enter Try.func93, Try.ntmps93
  go_wp2_with fail
  go_ret
  rw [sh_val hh0 hh1, sl_val hl0 hl1]
  exact ⟨rfl, (HB.out.set 0 _).set 1 _, (Ef.set _ _ _).trans (Ef.set _ _ _)⟩

theorem take_zero (b : Nat) (lo hi m : Int) (r : List Value) (t : TypeId) (w : World) (hm : W32 m) (hB : Blk w b (.int .u32 lo :: .int .u32 hi :: r) t) :
    Calls Try.prog 105 #[.pointer (some ⟨b, 0, none⟩), .int .u32 m] w fun e w' => e = .returned (.tuple #[]) ∧ Blk w' b (.int .u32 ((m + 1) % 4294967296) :: .int .u32 hi :: r) t ∧ Ef b w w' := by
  have q0 : w.cell? ⟨b, 0, none⟩ = some (.int .u32 lo) := hB.cell rfl
  have z0 := hB.free 0
  have h0 := hm.1
  have h1 := hm.2
  have HB := hid hB
  clear hm hB
  go_enter Try.func105, Try.ntmps105
  go_wp2_with fail
  go_end0
  exact ⟨rfl, HB.out.set 0 _, Ef.set _ _ _⟩

theorem take_one (b : Nat) (lo hi m : Int) (r : List Value) (t : TypeId) (w : World) (hm : W32 m) (hB : Blk w b (.int .u32 lo :: .int .u32 hi :: r) t) :
    Calls Try.prog 106 #[.pointer (some ⟨b, 0, none⟩), .int .u32 m] w fun e w' => e = .returned (.tuple #[]) ∧ Blk w' b (.int .u32 lo :: .int .u32 m :: r) t ∧ Ef b w w' := by
  have q0 : w.cell? ⟨b, 1, none⟩ = some (.int .u32 hi) := hB.cell rfl
  have z0 := hB.free 1
  have h0 := hm.1
  have h1 := hm.2
  have HB := hid hB
  clear hm hB
  go_enter Try.func106, Try.ntmps106
  go_wp2_with fail
  go_end0
  exact ⟨rfl, HB.out.set 1 _, Ef.set _ _ _⟩
end Go.Proofs.Ytimafabbepgifaa
