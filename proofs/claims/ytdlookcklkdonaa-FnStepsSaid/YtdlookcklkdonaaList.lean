/- The contract of the drawn list of bits. -/
import Derived.Test.YtdlookcklkdonaaDraw
namespace Go.Proofs.Ytdlookcklkdonaa
open Go.RowKit
set_option linter.unusedVariables false

theorem Cur.belowB {w0 w w' : World} {ao : Option Addr} {n cap C B : Nat} (h : Cur w0 ao n cap C w) (hB : C < B) (hb : Below B w w') : Cur w0 ao n cap C w' := by
  obtain ⟨h1, h2, i, x, hi, hh⟩ := h
  exact ⟨h1, h2.trans (hb.mono (by omega)), i, x, hi, (hb.block C hB).trans hh⟩
theorem Cur.setOther {w0 w : World} {ao : Option Addr} {n cap C : Nat} (h : Cur w0 ao n cap C w) (g j : Nat) (u : Value) (hg : C < g) : Cur w0 ao n cap C (w.setCell ⟨g, j, none⟩ u) :=
  h.belowB hg ((Below.refl g w).setCell (p := ⟨g, j, none⟩) (Nat.le_refl _) u)

set_option maxRecDepth 100000 in
set_option maxHeartbeats 3200000 in
theorem list_any (w0 : World) (ao : Option Addr) (n cap C : Nat) (zs : List Int) (m : Nat) (w : World) (hm : m ≤ 1000000) (hcode : Code w0 ao n zs) (hcur : Cur w0 ao n cap C w) :
    Calls Try.prog 36 #[.pointer (some ⟨C, 0, none⟩), .int .i64 m] w fun e w' => ∃ v : Value, e = .returned v ∧ ∃ xs : List Int, xs.length = m ∧ Own w' w.heap.size 3 .i64 v xs ∧ Cur w0 ao n cap C w' ∧ Eff C w w' := by
  have hlt := hcur.lt
  have HC := hid hcode
  have HU := hid hcur
  clear hcode hcur
  go_enter Try.func36, Try.ntmps36
  go_wp2
  go_loopw [5, 6] (fun v i wr => ∃ (k : Nat) (xs : List Int), k ≤ m ∧ i = .int .i64 k ∧ Hid (xs.length = k) ∧ Hid (Own wr w.heap.size 3 .i64 v xs) ∧ Hid (Cur w0 ao n cap C wr) ∧ Hid (Eff C w wr)) (fun _ i _ => m - (intOf i).toNat)
  case atStart => exact ⟨0, [], by omega, rfl, rfl, Own.empty _ _ _ _ (Nat.le_refl _), HU.out.below ((Below.refl _ _).alloc (Nat.le_refl _) _), (Eff.refl _ _).alloc _⟩
  case round =>
    obtain ⟨k, xs, hk, rfl, hxs, hown, hcur, heff⟩ := hrel
    by_cases hkm : k < m
    · have hkm' : (k : Int) < (m : Int) := by omega
      go_wp2_with fail
      refine (below_any w0 ao n cap C zs 2 _ HC.out hcur.out).mono ?_
      rintro e w1 ⟨x, rfl, hx, hc1, he1⟩
      have hown1 := Eff.own hown.out he1 hlt
      have HE1 := hid (heff.out.trans he1)
      have HC1 := hid hc1
      have hlen : xs.length < 1000000000000 := by have := hxs.out; omega
      clear hc1 he1 hx
      go_wp2_with (at_builtin; refine wpList_push _ rfl _ _ 26 rfl _ 3 .i64 0 8 Try.underlying26 Try.drawInfo3 _ _ rfl hown1 x rfl hlen (by decide) ?_)
      intro v2 w2 hown2 hb2
      have HO2 := hid hown2
      have HC2 := hid (HC1.out.belowB hlt hb2)
      have HE2 := hid (HE1.out.ofBelow hb2)
      clear hown1 hown2 hb2
      go_wp2
      go_roundw
      case rel => exact ⟨k + 1, xs ++ [x], by omega, by go_num, by show _ = _; simp; exact hxs.out, HO2.out, HC2.out, HE2.out⟩
      case measure => simp [intOf]; omega
    · obtain rfl : k = m := by omega
      have hmx := hxs.out
      subst hmx
      by_cases hk0 : (0 : Int) < (xs.length : Int)
      · go_wp2_with fail
        refine (once_any w0 ao n cap C zs 20 _ HC.out hcur.out).mono ?_
        rintro e w1 ⟨b, rfl, hc1, he1⟩
        have hown1 := Eff.own hown.out he1 hlt
        have HE1 := hid (heff.out.trans he1)
        have HC1 := hid hc1
        clear hc1 he1
        cases b with
        | false =>
          obtain ⟨a1, p1, rfl⟩ := hown1.shape
          have HO1 := hid hown1
          clear hown1
          go_wp2
          go_ret
          exact ⟨_, rfl, xs, rfl, HO1.out, HC1.out, HE1.out⟩
        | true =>
          rcases hown1.2.2 with ⟨_, h0⟩ | ⟨g, cp, cur, rfl, hge, _⟩
          · omega
          · have HO1 := hid hown1
            have hglt := hown1.ge.2
            clear hown1
            go_wp2_with fail
            refine (below_any w0 ao n cap C zs xs.length _ HC.out HC1.out).mono ?_
            rintro e w2 ⟨x, rfl, ⟨hx0, hx1⟩, hc2, he2⟩
            have hown2 := Eff.own HO1.out he2 hlt
            have HE2 := hid (HE1.out.trans he2)
            have HC2 := hid hc2
            have hsz2 := he2.size
            obtain ⟨j, rfl⟩ := Int.eq_ofNat_of_zero_le hx0
            have hj : j < xs.length := by omega
            have hj' : (j : Int) < (xs.length : Int) := by omega
            have HO2 := hid hown2
            have hlt2 := hc2.lt
            clear hc2 he2 hx1 hown2
            go_wp2_with fail
            refine (pick_any w0 ao n cap C zs w2.heap.size 2 _ [2, -1] _ HC.out (HC2.out.below ((Below.refl _ _).alloc (Nat.le_refl _) _)) (by decide) rfl (by decide) hlt2 ?_).mono ?_
            · intro q hq
              obtain rfl | rfl : q = 0 ∨ q = 1 := by omega
              all_goals simp
            · rintro e w3 ⟨q, hq, rfl, hc3, he3⟩
              obtain ⟨Y, hY⟩ : ∃ Y, Y = ([2, -1] : List Int).getD q 0 := ⟨_, rfl⟩
              rw [← hY]
              clear hY hq
              have hown3 := Eff.own (HO2.out.alloc _) he3 hlt
              have HE3 := hid ((HE2.out.alloc _).trans he3)
              have HC3 := hid hc3
              have hold := hown3.at j (by omega)
              have hfree := hown3.free j
              have HNEW := hid (hown3.store j Y)
              generalize xs.getD j 0 = Y0 at *
              clear hc3 he3 hown3
              go_wp2
              go_ret
              refine ⟨_, rfl, _, by simp, HNEW.out, HC3.out.setOther g j _ (by omega), ?_⟩
              exact HE3.out.ofBelow ((Below.refl _ _).setCell (p := ⟨g, j, none⟩) hge _)
      · obtain ⟨a1, p1, rfl⟩ := hown.out.shape
        have HO1 := hid hown.out
        go_wp2
        go_ret
        exact ⟨_, rfl, xs, rfl, HO1.out, hcur.out, heff.out⟩
end Go.Proofs.Ytdlookcklkdonaa
