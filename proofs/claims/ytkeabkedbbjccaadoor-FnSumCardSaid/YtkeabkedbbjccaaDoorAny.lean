/- The contract of the drawn text. -/
import Derived.Test.YtkeabkedbbjccaaDoorDraw
namespace Go.Proofs.YtkeabkedbbjccaaDoor
open Go.RowKit
set_option linter.unusedVariables false

theorem Cur.belowB {w0 w w' : World} {ao : Option Addr} {n cap C B : Nat} (h : Cur w0 ao n cap C w) (hB : C < B) (hb : Below B w w') : Cur w0 ao n cap C w' := by
  obtain ⟨h1, h2, i, x, hi, hh⟩ := h
  exact ⟨h1, h2.trans (hb.mono (by omega)), i, x, hi, (hb.block C hB).trans hh⟩

set_option maxRecDepth 100000 in
set_option maxHeartbeats 3200000 in
theorem any_any (w0 : World) (ao : Option Addr) (n cap C : Nat) (zs : List Int) (m : Nat) (w : World) (hm : m ≤ 1000000) (hcode : Code w0 ao n zs) (hcur : Cur w0 ao n cap C w) :
    Calls Tryd.prog 25 #[.pointer (some ⟨C, 0, none⟩), .int .i64 m] w fun e w' => ∃ s : ByteArray, e = .returned (.string s) ∧ s.size = m ∧ Cur w0 ao n cap C w' ∧ Eff C w w' := by
  have hlt := hcur.lt
  have HC := hid hcode
  have HU := hid hcur
  clear hcode hcur
  go_enter Tryd.func25, Tryd.ntmps25
  go_wp2
  go_loopw [5, 6] (fun v i wr => ∃ (k : Nat) (xs : List Int), k ≤ m ∧ i = .int .i64 k ∧ Hid (xs.length = k) ∧ Hid (Own wr w.heap.size 5 .u8 v xs) ∧ Hid (Cur w0 ao n cap C wr) ∧ Hid (Eff C w wr)) (fun _ i _ => m - (intOf i).toNat)
  case atStart => exact ⟨0, [], by omega, rfl, rfl, Own.empty _ _ _ _ (Nat.le_refl _), HU.out.below ((Below.refl _ _).alloc (Nat.le_refl _) _), (Eff.refl _ _).alloc _⟩
  case round =>
    obtain ⟨k, xs, hk, rfl, hxs, hown, hcur, heff⟩ := hrel
    by_cases hkm : k < m
    · have hkm' : (k : Int) < (m : Int) := by omega
      have hlen : xs.length < 1000000000000 := by have := hxs.out; omega
      go_wp2_with fail
      refine (below_any w0 ao n cap C zs 256 _ HC.out hcur.out).mono ?_
      rintro e w1 ⟨x, rfl, ⟨hx0, hx1⟩, hc1, he1⟩
      have HO1 := hid (Eff.own hown.out he1 hlt)
      have HE1 := hid (heff.out.trans he1)
      have HC1 := hid hc1
      have hx2 : x < 256 := by omega
      clear hc1 he1 hx1
      go_wp2_with fail
      refine (once_any w0 ao n cap C zs 3 _ HC.out HC1.out).mono ?_
      rintro e w2 ⟨b, rfl, hc2, he2⟩
      have HO2 := hid (Eff.own HO1.out he2 hlt)
      have HE2 := hid (HE1.out.trans he2)
      have HC2 := hid hc2
      have hlt2 := hc2.lt
      clear hc2 he2
      cases b with
      | false =>
        have hown2 := HO2.out
        go_wp2_with (at_builtin; refine wpList_push _ rfl _ _ 22 rfl _ 5 .u8 0 1 Tryd.underlying22 Tryd.drawInfo5 _ _ rfl hown2 x rfl hlen (by decide) ?_)
        intro v3 w3 hown3 hb3
        have HO3 := hid hown3
        have HC3 := hid (HC2.out.belowB hlt hb3)
        have HE3 := hid (HE2.out.ofBelow hb3)
        clear hown2 hown3 hb3
        go_wp2
        go_roundw
        case rel => exact ⟨k + 1, _, by omega, by go_num, by show _ = _; rw [List.length_append, hxs.out]; rfl, HO3.out, HC3.out, HE3.out⟩
        case measure => simp [intOf]; omega
      | true =>
        go_wp2_with fail
        refine (pick_any w0 ao n cap C zs w2.heap.size 3 _ [255, 0, 254] _ HC.out (HC2.out.below ((Below.refl _ _).alloc (Nat.le_refl _) _)) (by decide) rfl (by decide) hlt2 ?_).mono ?_
        · intro q hq
          obtain rfl | rfl | rfl : q = 0 ∨ q = 1 ∨ q = 2 := by omega
          all_goals simp
        · rintro e w3 ⟨q, hq, rfl, hc3, he3⟩
          obtain ⟨Y, hY⟩ : ∃ Y, Y = ([255, 0, 254] : List Int).getD q 0 := ⟨_, rfl⟩
          have hY0 : 0 ≤ Y ∧ Y < 256 := by
            obtain rfl | rfl | rfl : q = 0 ∨ q = 1 ∨ q = 2 := by omega
            all_goals (rw [hY]; decide)
          rw [← hY]
          obtain ⟨y0, y1⟩ := hY0
          have hown3 := Eff.own (HO2.out.alloc _) he3 hlt
          have HE3 := hid ((HE2.out.alloc _).trans he3)
          have HC3 := hid hc3
          clear hc3 he3 hY hq
          go_wp2_with (at_builtin; refine wpList_push _ rfl _ _ 22 rfl _ 5 .u8 0 1 Tryd.underlying22 Tryd.drawInfo5 _ _ rfl hown3 Y rfl hlen (by decide) ?_)
          intro v4 w4 hown4 hb4
          have HO4 := hid hown4
          have HC4 := hid (HC3.out.belowB hlt hb4)
          have HE4 := hid (HE3.out.ofBelow hb4)
          clear hown3 hown4 hb4
          go_wp2
          go_roundw
          case rel => exact ⟨k + 1, _, by omega, by go_num, by show _ = _; rw [List.length_append, hxs.out]; rfl, HO4.out, HC4.out, HE4.out⟩
          case measure => simp [intOf]; omega
    · obtain rfl : k = m := by omega
      have hc := Own.conv Tryd.underlying22 Tryd.underlying5 Tryd.underlying9 hown.out
      go_wp2
      go_ret
      exact ⟨_, rfl, by rw [strOfNums_size]; exact hxs.out, hcur.out, heff.out⟩
end Go.Proofs.YtkeabkedbbjccaaDoor
