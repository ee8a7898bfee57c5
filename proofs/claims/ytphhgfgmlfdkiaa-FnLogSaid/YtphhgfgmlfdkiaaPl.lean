/- The walk of the law FnExactLogParts. -/
import Derived.Test.YtphhgfgmlfdkiaaSpp
import Derived.Test.YtphhgfgmlfdkiaaEq
import Derived.Test.YtphhgfgmlfdkiaaMk
import Derived.Test.YtphhgfgmlfdkiaaFr
namespace Go.Proofs.Ytphhgfgmlfdkiaa
open Go.RowKit
set_option linter.unusedVariables false

theorem partsP_len (q : Int) (s : ByteArray) : (partsP q s).length ≤ 600 := by
  unfold partsP
  by_cases h : partOk q s = true
  · rw [if_pos h, partsTo_len]
    simp only [partOk, decide_eq_true_eq] at h
    unfold parts
    omega
  · rw [if_neg h]
    simp

set_option maxRecDepth 100000 in
set_option maxHeartbeats 3200000 in
theorem law_parts (q : Int) (s : ByteArray) (w : World) :
    Calls Try.prog 6 #[.int .i64 q, .string s] w fun e w' => e = .returned (.bool true) ∧ Below w.heap.size w w' := by
  by_cases hbig : (1048576 : Int) < (s.size : Int)
  · go_enter Try.func6, Try.ntmps6
    go_wp2_with fail
    go_ret
    exact ⟨rfl, Below.refl _ _⟩
  · have HSP := hid (spec_parts q s w (by omega))
    have HIM := hid (fun wz => impl_parts q s wz (by omega))
    have HL := hid (partsP_len q s)
    generalize partsP q s = S at *
    have hK0 : ¬ (1 : Int) + (S.length : Int) < 0 := by omega
    have hKK : ((1 : Int) + (S.length : Int) != (1 : Int) + (S.length : Int)) = false := by simp
    go_enter Try.func6, Try.ntmps6
    go_wp2_with fail
    refine HSP.out.mono ?_
    rintro e w1 ⟨v, rfl, ho1, hb⟩
    obtain ⟨Wa, Wc, rfl, Wp, _⟩ := ho1.shape
    have B := hid hb
    have W1 := hid ho1
    have WL := hid (show ∀ g, (Value.slice Wa S.length Wc).ownBlock = some g → g < w1.heap.size from fun g e => (ho1.2.lt g e).2)
    clear ho1 hb Wp
    go_wp2_with fail
    refine (HIM.out _).mono ?_
    rintro e w2 ⟨v, rfl, ho1, hb⟩
    obtain ⟨Ga, Gc, rfl, Gp, _⟩ := ho1.shape
    have hbs := hid B.out.size
    replace B := hid (B.out.trans (hb.mono B.out.size))
    replace W1 := hid (W1.out.below hb)
    have G1 := hid ho1
    clear ho1 hb Gp
    go_wp2_with fail
    refine (eq_strings _ _ _ _ S _ (by have := HL.out; omega) G1.out.rw W1.out.rw).mono ?_
    rintro e w3 ⟨rfl, hb⟩
    replace B := hid (B.out.trans (hb.mono B.out.size))
    replace W1 := hid (W1.out.below hb)
    replace G1 := hid (G1.out.below hb)
    clear hb
    go_wp2_with fail
    refine (mark_strings _ _ S 1 _ (by decide) (by decide) (by have := HL.out; omega) G1.out).mono ?_
    rintro e w4 ⟨rfl, ho, hg, hb⟩
    replace B := hid (B.out.trans (hb.mono hbs.out))
    replace W1 := hid (W1.out.sub hb WL.out)
    have Gm := hid ho
    clear ho hg hb G1
    go_wp2_with fail
    refine (held_strings _ _ S.length 1 _ (by decide) (by decide) (by have := HL.out; omega) Gm.out.rw).mono ?_
    rintro e w5 ⟨rfl, hb⟩
    replace B := hid (B.out.trans (hb.mono B.out.size))
    replace W1 := hid (W1.out.below hb)
    replace Gm := hid (Gm.out.below hb)
    clear hb
    go_wp2_with fail
    refine (HIM.out _).mono ?_
    rintro e w6 ⟨v, rfl, ho1, hb⟩
    obtain ⟨Ha, Hc, rfl, Hp, _⟩ := ho1.shape
    replace B := hid (B.out.trans (hb.mono B.out.size))
    replace W1 := hid (W1.out.below hb)
    replace Gm := hid (Gm.out.below hb)
    have H1 := hid ho1
    clear ho1 hb Hp
    go_wp2_with fail
    refine (eq_strings _ _ _ _ S _ (by have := HL.out; omega) H1.out.rw W1.out.rw).mono ?_
    rintro e w7 ⟨rfl, hb⟩
    replace B := hid (B.out.trans (hb.mono B.out.size))
    replace Gm := hid (Gm.out.below hb)
    clear hb
    go_wp2_with fail
    refine (held_strings _ _ S.length 1 _ (by decide) (by decide) (by have := HL.out; omega) Gm.out.rw).mono ?_
    rintro e w8 ⟨rfl, hb⟩
    replace B := hid (B.out.trans (hb.mono B.out.size))
    clear hb
    go_wp2_with fail
    go_ret
    exact ⟨rfl, B.out⟩
end Go.Proofs.Ytphhgfgmlfdkiaa
