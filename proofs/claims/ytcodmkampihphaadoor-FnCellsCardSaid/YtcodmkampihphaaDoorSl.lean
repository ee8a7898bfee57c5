/- Cell, of the program and of the specification. -/
import Derived.Test.YtcodmkampihphaaDoorSk
namespace Go.Proofs.YtcodmkampihphaaDoor
open Go.RowKit
set_option linter.unusedVariables false

def onSide (x : Int) : Bool := decide (0 ≤ x ∧ x ≤ 7)
/-- A cell of a block. -/
def cellV (d : Int) (xs : List Int) (r c : Int) : Int := if blkOk d xs = true ∧ onSide r = true ∧ onSide c = true then (sq d xs).getD (8 * r + c).toNat 0 else 0

theorem impl_side (x : Int) (w : World) : Calls Tryd.prog 30 #[.int .i64 x] w fun e w' => e = .returned (.bool (onSide x)) ∧ w = w' := by
  by_cases h1 : 0 ≤ x
  · by_cases h2 : x < 8
    · have e : onSide x = true := by unfold onSide; simp; omega
      rw [e]
      go_enter Tryd.func30, Tryd.ntmps30
      go_wp2
      go_ret
      exact ⟨rfl, rfl⟩
    · have e : onSide x = false := by unfold onSide; simp; omega
      rw [e]
      go_enter Tryd.func30, Tryd.ntmps30
      go_wp2
      go_ret
      exact ⟨rfl, rfl⟩
  · have e : onSide x = false := by unfold onSide; simp; omega
    rw [e]
    go_enter Tryd.func30, Tryd.ntmps30
    go_wp2
    go_ret
    exact ⟨rfl, rfl⟩

set_option maxRecDepth 20000 in
set_option maxHeartbeats 800000 in
theorem impl_cell (v : Value) (d : Int) (xs : List Int) (r c : Int) (w : World) (hl : xs.length ≤ 1048576) (hv : BV w v d xs) (hw : WayAt w) :
    Calls Tryd.prog 12 #[v, .int .i64 r, .int .i64 c] w fun e w' => e = .returned (.int .i64 (cellV d xs r c)) ∧ Below w.heap.size w w' := by
  obtain ⟨a, cp, rfl, hvw⟩ := hv
  have HB0 := hid ((Below.refl w.heap.size w).alloc (Nat.le_refl _) (.cells #[.int .i64 d, .slice a xs.length cp] 28))
  have HP0 := hid (Blk.new w [.int .i64 d, .slice a xs.length cp] 28)
  have HOK := hid (fun q (hq : Below w.heap.size w q) => impl_blockOk (.agg #[.int .i64 d, .slice a xs.length cp]) d xs q hl ⟨a, cp, rfl, hvw.below (Nat.le_refl _) hq⟩)
  have HR := hid (fun q => impl_side r q)
  have HC := hid (fun q => impl_side c q)
  by_cases hg : blkOk d xs = true ∧ onSide r = true ∧ onSide c = true
  · obtain ⟨hok, hr, hc⟩ := hg
    have hcv : cellV d xs r c = (sq d xs).getD (8 * r + c).toNat 0 := by unfold cellV; rw [if_pos ⟨hok, hr, hc⟩]
    rw [hcv]
    have h63 := (blk_at hok).2.1
    have HSQ := hid (fun q (hq : Below w.heap.size w q) => impl_square d xs a cp q h63 (by rw [← h63]; exact hvw.below (Nat.le_refl _) hq) (hw.below hq))
    have hr' : 0 ≤ r ∧ r ≤ 7 := by unfold onSide at hr; simpa using hr
    have hc' : 0 ≤ c ∧ c ≤ 7 := by unfold onSide at hc; simpa using hc
    obtain ⟨r0, r1⟩ := hr'
    obtain ⟨c0, c1⟩ := hc'
    have hIX := fun q => index52 (sq d xs) (sq_len d xs) q (8 * r + c).toNat (by omega)
    rw [show (((8 * r + c).toNat : Nat) : Int) = 8 * r + c by omega] at hIX
    rw [hok] at HOK
    rw [hr] at HR
    rw [hc] at HC
    rw [h63] at HOK HP0 HB0 ⊢
    clear hcv hok hr hc hvw hw h63
    generalize sq d xs = S at *
    generalize S.getD (8 * r + c).toNat 0 = Y at *
    go_enter Tryd.func12, Tryd.ntmps12
    go_wp2_with fail
    refine (HOK.out _ HB0.out).mono ?_
    rintro e w1 ⟨rfl, hb1⟩
    have HB1 := hid (HB0.out.trans (hb1.mono HB0.out.size))
    have HP1 := HP0.out.below hb1 HP0.out.lt
    have q1 := HP1.cell (i := 0) rfl
    have q2 := HP1.cell (i := 1) rfl
    clear HB0 HOK HP0 HP1 hb1
    go_wp2_with fail
    refine (HR.out _).mono ?_
    rintro e w2 ⟨rfl, rfl⟩
    go_wp2_with fail
    refine (HC.out _).mono ?_
    rintro e w2 ⟨rfl, rfl⟩
    go_wp2_with fail
    refine (HSQ.out _ HB1.out).mono ?_
    rintro e w2 ⟨rfl, hb2⟩
    go_wp2_with fail
    go_ret
    exact ⟨rfl, HB1.out.trans (hb2.mono HB1.out.size)⟩
  · have hcv : cellV d xs r c = 0 := by unfold cellV; rw [if_neg hg]
    rw [hcv]
    clear hcv hw hvw
    cases hok : blkOk d xs with
    | false =>
      rw [hok] at HOK
      clear hok hg
      go_enter Tryd.func12, Tryd.ntmps12
      go_wp2_with fail
      refine (HOK.out _ HB0.out).mono ?_
      rintro e w1 ⟨rfl, hb1⟩
      go_wp2_with fail
      go_ret
      exact ⟨rfl, HB0.out.trans (hb1.mono HB0.out.size)⟩
    | true =>
      rw [hok] at HOK
      cases hr : onSide r with
      | false =>
        rw [hr] at HR
        clear hok hr hg
        go_enter Tryd.func12, Tryd.ntmps12
        go_wp2_with fail
        refine (HOK.out _ HB0.out).mono ?_
        rintro e w1 ⟨rfl, hb1⟩
        go_wp2_with fail
        refine (HR.out _).mono ?_
        rintro e w2 ⟨rfl, rfl⟩
        go_wp2_with fail
        go_ret
        exact ⟨rfl, HB0.out.trans (hb1.mono HB0.out.size)⟩
      | true =>
        have hc : onSide c = false := by
          cases e : onSide c with
          | false => rfl
          | true => exact absurd ⟨hok, hr, e⟩ hg
        rw [hr] at HR
        rw [hc] at HC
        clear hok hr hc hg
        go_enter Tryd.func12, Tryd.ntmps12
        go_wp2_with fail
        refine (HOK.out _ HB0.out).mono ?_
        rintro e w1 ⟨rfl, hb1⟩
        go_wp2_with fail
        refine (HR.out _).mono ?_
        rintro e w2 ⟨rfl, rfl⟩
        go_wp2_with fail
        refine (HC.out _).mono ?_
        rintro e w2 ⟨rfl, rfl⟩
        go_wp2_with fail
        go_ret
        exact ⟨rfl, HB0.out.trans (hb1.mono HB0.out.size)⟩

set_option maxRecDepth 20000 in
set_option maxHeartbeats 800000 in
theorem spec_cell (v : Value) (d : Int) (xs : List Int) (r c : Int) (w : World) (hl : xs.length ≤ 1048576) (hv : BV w v d xs) :
    Calls Tryd.prog 16 #[v, .int .i64 r, .int .i64 c] w fun e w' => e = .returned (.int .i64 (cellV d xs r c)) ∧ Below w.heap.size w w' := by
  obtain ⟨a, cp, rfl, hvw⟩ := hv
  have HB0 := hid ((Below.refl w.heap.size w).alloc (Nat.le_refl _) (.cells #[.int .i64 d, .slice a xs.length cp] 28))
  have HP0 := hid (Blk.new w [.int .i64 d, .slice a xs.length cp] 28)
  have HOK := hid (fun q (hq : Below w.heap.size w q) => spec_blockOk (.agg #[.int .i64 d, .slice a xs.length cp]) d xs q hl ⟨a, cp, rfl, hvw.below (Nat.le_refl _) hq⟩)
  have HR := hid (fun q => show Calls Tryd.prog 36 #[.int .i64 r, .int .i64 0, .int .i64 7] q fun e w' => e = .returned (.bool (onSide r)) ∧ q = w' from spec_in r 0 7 q)
  have HC := hid (fun q => show Calls Tryd.prog 36 #[.int .i64 c, .int .i64 0, .int .i64 7] q fun e w' => e = .returned (.bool (onSide c)) ∧ q = w' from spec_in c 0 7 q)
  by_cases hg : blkOk d xs = true ∧ onSide r = true ∧ onSide c = true
  · obtain ⟨hok, hr, hc⟩ := hg
    have hcv : cellV d xs r c = (sq d xs).getD (8 * r + c).toNat 0 := by unfold cellV; rw [if_pos ⟨hok, hr, hc⟩]
    rw [hcv]
    have h63 := (blk_at hok).2.1
    have HSQ := hid (fun q (hq : Below w.heap.size w q) => spec_square d xs a cp q h63 (by rw [← h63]; exact hvw.below (Nat.le_refl _) hq))
    have hr' : 0 ≤ r ∧ r ≤ 7 := by unfold onSide at hr; simpa using hr
    have hc' : 0 ≤ c ∧ c ≤ 7 := by unfold onSide at hc; simpa using hc
    obtain ⟨r0, r1⟩ := hr'
    obtain ⟨c0, c1⟩ := hc'
    have hIX := fun q => index30 (sq d xs) (sq_len d xs) q (8 * r + c).toNat (by omega)
    rw [show (((8 * r + c).toNat : Nat) : Int) = 8 * r + c by omega] at hIX
    rw [hok] at HOK
    rw [hr] at HR
    rw [hc] at HC
    rw [h63] at HOK HP0 HB0 ⊢
    clear hcv hok hr hc hvw  h63
    generalize sq d xs = S at *
    generalize S.getD (8 * r + c).toNat 0 = Y at *
    go_enter Tryd.func16, Tryd.ntmps16
    go_wp2_with fail
    refine (HOK.out _ HB0.out).mono ?_
    rintro e w1 ⟨rfl, hb1⟩
    have HB1 := hid (HB0.out.trans (hb1.mono HB0.out.size))
    have HP1 := HP0.out.below hb1 HP0.out.lt
    have q1 := HP1.cell (i := 0) rfl
    have q2 := HP1.cell (i := 1) rfl
    clear HB0 HOK HP0 HP1 hb1
    go_wp2_with fail
    refine (HR.out _).mono ?_
    rintro e w2 ⟨rfl, rfl⟩
    go_wp2_with fail
    refine (HC.out _).mono ?_
    rintro e w2 ⟨rfl, rfl⟩
    go_wp2_with fail
    refine (HSQ.out _ HB1.out).mono ?_
    rintro e w2 ⟨rfl, hb2⟩
    go_wp2_with fail
    go_ret
    exact ⟨rfl, HB1.out.trans (hb2.mono HB1.out.size)⟩
  · have hcv : cellV d xs r c = 0 := by unfold cellV; rw [if_neg hg]
    rw [hcv]
    clear hcv hvw
    cases hok : blkOk d xs with
    | false =>
      rw [hok] at HOK
      clear hok hg
      go_enter Tryd.func16, Tryd.ntmps16
      go_wp2_with fail
      refine (HOK.out _ HB0.out).mono ?_
      rintro e w1 ⟨rfl, hb1⟩
      go_wp2_with fail
      go_ret
      exact ⟨rfl, HB0.out.trans (hb1.mono HB0.out.size)⟩
    | true =>
      rw [hok] at HOK
      cases hr : onSide r with
      | false =>
        rw [hr] at HR
        clear hok hr hg
        go_enter Tryd.func16, Tryd.ntmps16
        go_wp2_with fail
        refine (HOK.out _ HB0.out).mono ?_
        rintro e w1 ⟨rfl, hb1⟩
        go_wp2_with fail
        refine (HR.out _).mono ?_
        rintro e w2 ⟨rfl, rfl⟩
        go_wp2_with fail
        go_ret
        exact ⟨rfl, HB0.out.trans (hb1.mono HB0.out.size)⟩
      | true =>
        have hc : onSide c = false := by
          cases e : onSide c with
          | false => rfl
          | true => exact absurd ⟨hok, hr, e⟩ hg
        rw [hr] at HR
        rw [hc] at HC
        clear hok hr hc hg
        go_enter Tryd.func16, Tryd.ntmps16
        go_wp2_with fail
        refine (HOK.out _ HB0.out).mono ?_
        rintro e w1 ⟨rfl, hb1⟩
        go_wp2_with fail
        refine (HR.out _).mono ?_
        rintro e w2 ⟨rfl, rfl⟩
        go_wp2_with fail
        refine (HC.out _).mono ?_
        rintro e w2 ⟨rfl, rfl⟩
        go_wp2_with fail
        go_ret
        exact ⟨rfl, HB0.out.trans (hb1.mono HB0.out.size)⟩
end Go.Proofs.YtcodmkampihphaaDoor
