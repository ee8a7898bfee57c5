/- A round of a sum, of the program. -/
import Derived.Test.YtkeabkedbbjccaaDoorRo
import Derived.Test.YtkeabkedbbjccaaDoorBl
namespace Go.Proofs.YtkeabkedbbjccaaDoor
open Go.RowKit
set_option linter.unusedVariables false

/-- What a round adds up: of the last four words and what the round has of its own; of the first three. -/
def rT (e f g h x : Int) : Int := (((h + bg1 e) % 4294967296 + cho e f g) % 4294967296 + x) % 4294967296
def rU (a b c : Int) : Int := (bg0 a + maj a b c) % 4294967296
theorem rT_word (e f g h x : Int) : W32 (rT e f g h x) := W32.mod _
theorem rU_word (a b c : Int) : W32 (rU a b c) := W32.mod _

theorem below_set8 {B b : Nat} {a w : World} (h : Below B a w) (hb : B ≤ b) (v0 v1 v2 v3 v4 v5 v6 v7 : Value) : Below B a ((((((((w.setCell ⟨b, 0, none⟩ v0).setCell ⟨b, 1, none⟩ v1).setCell ⟨b, 2, none⟩ v2).setCell ⟨b, 3, none⟩ v3).setCell ⟨b, 4, none⟩ v4).setCell ⟨b, 5, none⟩ v5).setCell ⟨b, 6, none⟩ v6).setCell ⟨b, 7, none⟩ v7) :=
  ((((((((h.setCell (p := ⟨b, 0, none⟩) hb _).setCell (p := ⟨b, 1, none⟩) hb _).setCell (p := ⟨b, 2, none⟩) hb _).setCell (p := ⟨b, 3, none⟩) hb _).setCell (p := ⟨b, 4, none⟩) hb _).setCell (p := ⟨b, 5, none⟩) hb _).setCell (p := ⟨b, 6, none⟩) hb _).setCell (p := ⟨b, 7, none⟩) hb _)
theorem blk_set8 {b : Nat} {t : TypeId} {w : World} {u0 u1 u2 u3 u4 u5 u6 u7 : Value} (h : Blk w b [u0, u1, u2, u3, u4, u5, u6, u7] t) (v0 v1 v2 v3 v4 v5 v6 v7 : Value) : Blk ((((((((w.setCell ⟨b, 0, none⟩ v0).setCell ⟨b, 1, none⟩ v1).setCell ⟨b, 2, none⟩ v2).setCell ⟨b, 3, none⟩ v3).setCell ⟨b, 4, none⟩ v4).setCell ⟨b, 5, none⟩ v5).setCell ⟨b, 6, none⟩ v6).setCell ⟨b, 7, none⟩ v7) b [v0, v1, v2, v3, v4, v5, v6, v7] t :=
  ((((((((h.set 0 _).set 1 _).set 2 _).set 3 _).set 4 _).set 5 _).set 6 _).set 7 _)
theorem ef_set8 (b : Nat) (w : World) (v0 v1 v2 v3 v4 v5 v6 v7 : Value) : Ef b w ((((((((w.setCell ⟨b, 0, none⟩ v0).setCell ⟨b, 1, none⟩ v1).setCell ⟨b, 2, none⟩ v2).setCell ⟨b, 3, none⟩ v3).setCell ⟨b, 4, none⟩ v4).setCell ⟨b, 5, none⟩ v5).setCell ⟨b, 6, none⟩ v6).setCell ⟨b, 7, none⟩ v7) :=
  ((((((((Ef.set _ 0 _).trans (Ef.set _ 1 _)).trans (Ef.set _ 2 _)).trans (Ef.set _ 3 _)).trans (Ef.set _ 4 _)).trans (Ef.set _ 5 _)).trans (Ef.set _ 6 _)).trans (Ef.set _ 7 _))

set_option maxRecDepth 100000 in
set_option maxHeartbeats 1600000 in
theorem impl_round (a b c d e f g h x : Int) (w : World) (ha : W32 a) (hb : W32 b) (hc : W32 c) (hd : W32 d) (he : W32 e) (hf : W32 f) (hg : W32 g) (hh : W32 h) (hx : W32 x) :
    Calls Tryd.prog 28 #[.agg #[.int .u32 a, .int .u32 b, .int .u32 c, .int .u32 d, .int .u32 e, .int .u32 f, .int .u32 g, .int .u32 h], .int .u32 x] w fun e1 w' =>
      e1 = .returned (.agg #[.int .u32 ((rT e f g h x + rU a b c) % 4294967296), .int .u32 a, .int .u32 b, .int .u32 c, .int .u32 ((d + rT e f g h x) % 4294967296), .int .u32 e, .int .u32 f, .int .u32 g]) ∧ Below w.heap.size w w' := by
  have H1 := hid (fun q => impl_bg1 e q he)
  have H2 := hid (fun q => impl_cho e f g q he hf hg)
  have H3 := hid (fun q => impl_bg0 a q ha)
  have H4 := hid (fun q => impl_maj a b c q ha hb hc)
  have ET : Hid (rT e f g h x = (((h + bg1 e) % 4294967296 + cho e f g) % 4294967296 + x) % 4294967296) := rfl
  have EU : Hid (rU a b c = (bg0 a + maj a b c) % 4294967296) := rfl
  have TW := rT_word e f g h x
  have UW := rU_word a b c
  have b1 := bg1_word he
  have b2 := cho_word he hf hg
  have b3 := bg0_word ha
  have b4 := maj_word ha hb hc
  generalize rT e f g h x = T at *
  generalize rU a b c = U at *
  generalize bg1 e = E1 at *
  generalize cho e f g = E2 at *
  generalize bg0 a = E3 at *
  generalize maj a b c = E4 at *
  obtain ⟨a0, a1⟩ := ha
  obtain ⟨b0, b1'⟩ := hb
  obtain ⟨c0, c1⟩ := hc
  obtain ⟨d0, d1⟩ := hd
  obtain ⟨e0, e1⟩ := he
  obtain ⟨f0, f1⟩ := hf
  obtain ⟨g0, g1⟩ := hg
  obtain ⟨h0, h1⟩ := hh
  obtain ⟨x0, x1⟩ := hx
  obtain ⟨t0, t1⟩ := TW
  obtain ⟨u0, u1⟩ := UW
  obtain ⟨y0, y1⟩ := b1
  obtain ⟨y2, y3⟩ := b2
  obtain ⟨y4, y5⟩ := b3
  obtain ⟨y6, y7⟩ := b4
  go_enter Tryd.func28, Tryd.ntmps28
  go_wp2_with fail
  go_quiet (fail)
  go_wp2_with fail
  go_quiet (fail)
  go_wp2_with fail
  refine (H1.out _).mono ?_
  rintro e1 w1 ⟨rfl, q1, rfl⟩
  go_wp2_with fail
  refine (H2.out _).mono ?_
  rintro e1 w1 ⟨rfl, q2, rfl⟩
  go_wp2_with fail
  refine (H3.out _).mono ?_
  rintro e1 w1 ⟨rfl, q3, rfl⟩
  go_wp2_with fail
  refine (H4.out _).mono ?_
  rintro e1 w1 ⟨rfl, q4, rfl⟩
  go_wp2_with fail
  refine bodyPost_ret (v := .agg #[.int .u32 ((T + U) % 4294967296), .int .u32 a, .int .u32 b, .int .u32 c, .int .u32 ((d + T) % 4294967296), .int .u32 e, .int .u32 f, .int .u32 g]) (by simp [results, Tryd.results28, go_sem]; have := ET.out; have := EU.out; omega) rfl ⟨rfl, ?_⟩
  exact below_set8 (belowN (((Below.refl w.heap.size w).alloc (Nat.le_refl _) _).alloc (by simp) _) _) (Nat.le_succ _) _ _ _ _ _ _ _ _
end Go.Proofs.YtkeabkedbbjccaaDoor
