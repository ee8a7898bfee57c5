/- Contracts of the small functions of sums, of the program and of the specification: turns of words, and what is made of them. -/
import Derived.Test.YtkeabkedbbjccaaDoorRows
import Derived.Test.YtkeabkedbbjccaaDoorView
import Derived.Deep.QuietTactic
import Derived.BigQuiet
import Derived.Laws.BitsAllLaws
namespace Go.Proofs.YtkeabkedbbjccaaDoor
open Go.RowKit
set_option linter.unusedVariables false

/-- A word. -/
def W32 (x : Int) : Prop := 0 ≤ x ∧ x < 4294967296
theorem W32.mod (x : Int) : W32 (x % 4294967296) := by unfold W32; omega
theorem W32.div {x : Int} (h : W32 x) (n : Nat) : W32 (x / 2 ^ n) := by
  obtain ⟨h0, h1⟩ := h
  have hp : (0 : Int) < 2 ^ n := Int.pow_pos (by decide)
  refine ⟨Int.ediv_nonneg h0 (by omega), Int.lt_of_le_of_lt (Int.ediv_le_self _ h0) h1⟩
/-- Two words, bit by bit: unlike; both. -/
def xr (a b : Int) : Int := bits .xor .u32 a b
def an (a b : Int) : Int := bits .and .u32 a b
theorem xr_word {a b : Int} (ha : W32 a) (hb : W32 b) : W32 (xr a b) := by
  unfold xr
  rw [u32_xor a b ha.1 ha.2 hb.1 hb.2]
  have := @Nat.xor_lt_two_pow a.toNat b.toNat 32 (by have := ha.2; have := ha.1; omega) (by have := hb.2; have := hb.1; omega)
  unfold W32
  omega
theorem an_word {a b : Int} (ha : W32 a) (hb : W32 b) : W32 (an a b) := by
  unfold an
  rw [u32_and a b ha.1 ha.2 hb.1 hb.2]
  have := @Nat.and_lt_two_pow a.toNat b.toNat 32 (by have := hb.2; have := hb.1; omega)
  unfold W32
  omega
theorem xr_comm {a b : Int} (ha : W32 a) (hb : W32 b) : xr a b = xr b a := by
  unfold xr
  rw [u32_xor a b ha.1 ha.2 hb.1 hb.2, u32_xor b a hb.1 hb.2 ha.1 ha.2, Nat.xor_comm]
/-- x turned by n bits. -/
def rt (x : Int) (n : Nat) : Int := xr (x / 2 ^ n) (x * 2 ^ (32 - n) % 4294967296)
theorem rt_word {x : Int} (h : W32 x) (n : Nat) : W32 (rt x n) := xr_word (h.div n) (W32.mod _)
def sm0 (x : Int) : Int := xr (xr (rt x 7) (rt x 18)) (x / 8)
def sm1 (x : Int) : Int := xr (xr (rt x 17) (rt x 19)) (x / 1024)
def bg0 (x : Int) : Int := xr (xr (rt x 2) (rt x 13)) (rt x 22)
def bg1 (x : Int) : Int := xr (xr (rt x 6) (rt x 11)) (rt x 25)
def cho (e f g : Int) : Int := xr (an e f) (an (xr e 4294967295) g)
def maj (a b c : Int) : Int := xr (xr (an a b) (an a c)) (an b c)
theorem sm0_word {x : Int} (h : W32 x) : W32 (sm0 x) := xr_word (xr_word (rt_word h _) (rt_word h _)) (h.div 3)
theorem sm1_word {x : Int} (h : W32 x) : W32 (sm1 x) := xr_word (xr_word (rt_word h _) (rt_word h _)) (h.div 10)
theorem bg0_word {x : Int} (h : W32 x) : W32 (bg0 x) := xr_word (xr_word (rt_word h _) (rt_word h _)) (rt_word h _)
theorem bg1_word {x : Int} (h : W32 x) : W32 (bg1 x) := xr_word (xr_word (rt_word h _) (rt_word h _)) (rt_word h _)
theorem cho_word {e f g : Int} (he : W32 e) (hf : W32 f) (hg : W32 g) : W32 (cho e f g) := xr_word (an_word he hf) (an_word (xr_word he (by unfold W32; omega)) hg)
theorem maj_word {a b c : Int} (ha : W32 a) (hb : W32 b) (hc : W32 c) : W32 (maj a b c) := xr_word (xr_word (an_word ha hb) (an_word ha hc)) (an_word hb hc)

set_option maxHeartbeats 400000 in
theorem impl_rot (x m : Int) (n : Nat) (hm : m = n) (hn : 1 ≤ n ∧ n ≤ 31) (w : World) (hl : W32 x) :
    Calls Tryd.prog 51 #[.int .u32 x, .int .i64 m] w fun e w' => e = .returned (.int .u32 (rt x n)) ∧ ∃ q, w' = w.drewN q := by
  subst hm
  have h0 := hl.1
  have h1 := hl.2
  have n0 := hn.1
  have n1 := hn.2
  clear hl hn
  go_enter Tryd.func51, Tryd.ntmps51
  go_wp2_with fail
  go_quiet (fail)
  go_wp2_with fail
  go_ret
  exact ⟨rfl, _, rfl⟩

set_option maxHeartbeats 400000 in
theorem spec_rot (x m : Int) (n : Nat) (hm : m = n) (hn : 1 ≤ n ∧ n ≤ 31) (w : World) (hl : W32 x) :
    Calls Tryd.prog 36 #[.int .u32 x, .int .u64 m] w fun e w' => e = .returned (.int .u32 (rt x n)) ∧ w = w' := by
  subst hm
  have h0 := hl.1
  have h1 := hl.2
  have n0 := hn.1
  have n1 := hn.2
  clear hl hn
  go_enter Tryd.func36, Tryd.ntmps36
  go_wp2_with fail
  go_ret
  exact ⟨rfl, rfl⟩

set_option maxHeartbeats 400000 in
theorem impl_sm0 (x : Int) (w : World) (hl : W32 x) :
    Calls Tryd.prog 33 #[.int .u32 x] w fun e w' => e = .returned (.int .u32 (sm0 x)) ∧ ∃ q, w' = w.drewN q := by
  have H1 := hid (fun w => impl_rot x 7 7 rfl (by decide) w hl)
  have H2 := hid (fun w => impl_rot x 18 18 rfl (by decide) w hl)
  have h0 := hl.1
  have h1 := hl.2
  clear hl
  go_enter Tryd.func33, Tryd.ntmps33
  go_wp2_with fail
  refine (H1.out _).mono ?_
  rintro e w1 ⟨rfl, q1, rfl⟩
  go_wp2_with fail
  refine (H2.out _).mono ?_
  rintro e w1 ⟨rfl, q2, rfl⟩
  go_wp2_with fail
  go_ret
  exact ⟨rfl, _, rfl⟩

set_option maxHeartbeats 400000 in
theorem impl_sm1 (x : Int) (w : World) (hl : W32 x) :
    Calls Tryd.prog 34 #[.int .u32 x] w fun e w' => e = .returned (.int .u32 (sm1 x)) ∧ ∃ q, w' = w.drewN q := by
  have H1 := hid (fun w => impl_rot x 17 17 rfl (by decide) w hl)
  have H2 := hid (fun w => impl_rot x 19 19 rfl (by decide) w hl)
  have h0 := hl.1
  have h1 := hl.2
  clear hl
  go_enter Tryd.func34, Tryd.ntmps34
  go_wp2_with fail
  refine (H1.out _).mono ?_
  rintro e w1 ⟨rfl, q1, rfl⟩
  go_wp2_with fail
  refine (H2.out _).mono ?_
  rintro e w1 ⟨rfl, q2, rfl⟩
  go_wp2_with fail
  go_ret
  exact ⟨rfl, _, rfl⟩

set_option maxHeartbeats 400000 in
theorem impl_bg0 (x : Int) (w : World) (hl : W32 x) :
    Calls Tryd.prog 49 #[.int .u32 x] w fun e w' => e = .returned (.int .u32 (bg0 x)) ∧ ∃ q, w' = w.drewN q := by
  have H1 := hid (fun w => impl_rot x 2 2 rfl (by decide) w hl)
  have H2 := hid (fun w => impl_rot x 13 13 rfl (by decide) w hl)
  have H3 := hid (fun w => impl_rot x 22 22 rfl (by decide) w hl)
  have h0 := hl.1
  have h1 := hl.2
  clear hl
  go_enter Tryd.func49, Tryd.ntmps49
  go_wp2_with fail
  refine (H1.out _).mono ?_
  rintro e w1 ⟨rfl, q1, rfl⟩
  go_wp2_with fail
  refine (H2.out _).mono ?_
  rintro e w1 ⟨rfl, q2, rfl⟩
  go_wp2_with fail
  refine (H3.out _).mono ?_
  rintro e w1 ⟨rfl, q3, rfl⟩
  go_wp2_with fail
  go_ret
  exact ⟨rfl, _, rfl⟩

set_option maxHeartbeats 400000 in
theorem impl_bg1 (x : Int) (w : World) (hl : W32 x) :
    Calls Tryd.prog 47 #[.int .u32 x] w fun e w' => e = .returned (.int .u32 (bg1 x)) ∧ ∃ q, w' = w.drewN q := by
  have H1 := hid (fun w => impl_rot x 6 6 rfl (by decide) w hl)
  have H2 := hid (fun w => impl_rot x 11 11 rfl (by decide) w hl)
  have H3 := hid (fun w => impl_rot x 25 25 rfl (by decide) w hl)
  have h0 := hl.1
  have h1 := hl.2
  clear hl
  go_enter Tryd.func47, Tryd.ntmps47
  go_wp2_with fail
  refine (H1.out _).mono ?_
  rintro e w1 ⟨rfl, q1, rfl⟩
  go_wp2_with fail
  refine (H2.out _).mono ?_
  rintro e w1 ⟨rfl, q2, rfl⟩
  go_wp2_with fail
  refine (H3.out _).mono ?_
  rintro e w1 ⟨rfl, q3, rfl⟩
  go_wp2_with fail
  go_ret
  exact ⟨rfl, _, rfl⟩

theorem not_xr {e : Int} (h : W32 e) : bits .xor .u32 4294967295 e = xr e 4294967295 := xr_comm (a := 4294967295) (by unfold W32; omega) h
set_option maxHeartbeats 400000 in
theorem impl_cho (e f g : Int) (w : World) (he : W32 e) (hf : W32 f) (hg : W32 g) :
    Calls Tryd.prog 48 #[.int .u32 e, .int .u32 f, .int .u32 g] w fun e1 w' => e1 = .returned (.int .u32 (cho e f g)) ∧ ∃ q, w' = w.drewN q := by
  have HX := hid (not_xr he)
  have h0 := he.1
  have h1 := he.2
  have f0 := hf.1
  have f1 := hf.2
  have g0 := hg.1
  have g1 := hg.2
  clear he hf hg
  go_enter Tryd.func48, Tryd.ntmps48
  go_wp2_with fail
  go_ret
  refine ⟨ret_int ?_, 0, rfl⟩
  show bits .xor .u32 (bits .and .u32 e f) (bits .and .u32 (bits .xor .u32 4294967295 e) g) = _
  rw [HX.out]
  rfl
set_option maxHeartbeats 400000 in
theorem impl_maj (e f g : Int) (w : World) (he : W32 e) (hf : W32 f) (hg : W32 g) :
    Calls Tryd.prog 50 #[.int .u32 e, .int .u32 f, .int .u32 g] w fun e1 w' => e1 = .returned (.int .u32 (maj e f g)) ∧ ∃ q, w' = w.drewN q := by
  have h0 := he.1
  have h1 := he.2
  have f0 := hf.1
  have f1 := hf.2
  have g0 := hg.1
  have g1 := hg.2
  clear he hf hg
  go_enter Tryd.func50, Tryd.ntmps50
  go_wp2_with fail
  go_ret
  exact ⟨rfl, 0, rfl⟩
end Go.Proofs.YtkeabkedbbjccaaDoor
