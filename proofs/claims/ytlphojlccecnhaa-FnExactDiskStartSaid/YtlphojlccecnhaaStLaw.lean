/- The walk of the law FnExactDiskStart. -/
import Derived.Test.YtlphojlccecnhaaSt
import Derived.Test.YtlphojlccecnhaaEq
import Derived.Test.YtlphojlccecnhaaMk
import Derived.Test.YtlphojlccecnhaaFr
namespace Go.Proofs.Ytlphojlccecnhaa
open Go.RowKit
set_option linter.unusedVariables false

set_option maxRecDepth 100000 in
set_option maxHeartbeats 6400000 in
theorem law_start (n : Int) (w : World) :
    Calls Try.prog 6 #[.int .i64 n] w fun e w' => e = .returned (.bool true) ∧ Below w.heap.size w w' := by
  have HSP := hid (spec_start n w)
  have HIM := hid (fun q => impl_start n q)
  have HL := hid (show (stR n).1.length ≤ 1500 ∧ ([] : List (Int × ByteArray)).length ≤ 1500 from ⟨stR_len n, by decide⟩)
  generalize (stR n).1 = S at *
  generalize (stR n).2 = R at *
  generalize ([] : List (Int × ByteArray)) = L at *
  have hRR : (R != R) = false := by simp
  have B := hid (Below.refl w.heap.size w)
  have hK0 : ¬ (1 : Int) + (S.length : Int) + 2 * (L.length : Int) < 0 := by omega
  have hKK : ((1 : Int) + (S.length : Int) + 2 * (L.length : Int) != (1 : Int) + (S.length : Int) + 2 * (L.length : Int)) = false := by simp
  go_enter Try.func6, Try.ntmps6
  go_wp2_with fail
  refine (HSP.out).mono ?_
  rintro e w1 ⟨v, rfl, ⟨va, vb, rfl, ho1, ho2⟩, hb⟩
  obtain ⟨Wa, Wc, rfl, Wp, _⟩ := ho1.shape
  obtain ⟨Wb, Wd, rfl, Wr, _⟩ := ho2.shape
  replace B := hid (B.out.trans (hb.mono B.out.size))
  have W1 := hid ho1
  have W2 := hid ho2
  have WP := hid (show _ ∧ _ from ⟨Wp, Wr⟩)
  clear hb ho1 ho2 Wp Wr
  have hb := (Below.refl w1.heap.size w1).alloc (Nat.le_refl _) (.cells #[.slice Wa S.length Wc, .slice Wb L.length Wd] 27)
  replace B := hid (B.out.trans (hb.mono B.out.size))
  replace W1 := hid (W1.out.below hb)
  replace W2 := hid (W2.out.below hb)
  have WB := hid (Blk.new w1 [.slice Wa S.length Wc, .slice Wb L.length Wd] 27)
  clear hb
  go_wp2_with fail
  have hbsG := hid B.out.size
  refine (HIM.out _).mono ?_
  generalize w1.alloc (.cells #[.slice Wa S.length Wc, .slice Wb L.length Wd] 27) = w2 at *
  have WLG := hid (show (∀ g, (Value.slice Wa S.length Wc).ownBlock = some g → g < w2.heap.size) ∧ (∀ g, (Value.slice Wb L.length Wd).ownBlock = some g → g < w2.heap.size) from ⟨fun g e => (W1.out.2.lt g e).2, fun g e => (W2.out.2.lt g e).2⟩)
  rintro e w3 ⟨v, rfl, ⟨va, vb, rfl, ho1, ho2⟩, hb⟩
  obtain ⟨Ga, Gc, rfl, Gp, _⟩ := ho1.shape
  obtain ⟨Gb, Gd, rfl, Gr, _⟩ := ho2.shape
  replace B := hid (B.out.trans (hb.mono B.out.size))
  replace W1 := hid (W1.out.below hb)
  replace W2 := hid (W2.out.below hb)
  replace WB := hid (WB.out.below hb WB.out.lt)
  have G1 := hid ho1
  have G2 := hid ho2
  have GP := hid (show _ ∧ _ from ⟨Gp, Gr⟩)
  clear hb ho1 ho2 Gp Gr
  have hb := (Below.refl w3.heap.size w3).alloc (Nat.le_refl _) (.cells #[.slice Ga S.length Gc, .slice Gb L.length Gd] 27)
  replace B := hid (B.out.trans (hb.mono B.out.size))
  replace W1 := hid (W1.out.below hb)
  replace W2 := hid (W2.out.below hb)
  replace WB := hid (WB.out.below hb WB.out.lt)
  replace G1 := hid (G1.out.below hb)
  replace G2 := hid (G2.out.below hb)
  have GB := hid (Blk.new w3 [.slice Ga S.length Gc, .slice Gb L.length Gd] 27)
  clear hb
  have q0 := GB.out.cell (i := 0) rfl
  have q1 := GB.out.cell (i := 1) rfl
  have q2 := WB.out.cell (i := 0) rfl
  have q3 := WB.out.cell (i := 1) rfl
  go_wp2_with fail
  refine (eq_disk _ _ S L _ (by have := HL.out.1; omega) (by have := HL.out.2; omega) ⟨_, _, _, _, rfl, G1.out.rw, G2.out.rw⟩ ⟨_, _, _, _, rfl, W1.out.rw, W2.out.rw⟩).mono ?_
  generalize w3.alloc (.cells #[.slice Ga S.length Gc, .slice Gb L.length Gd] 27) = w4 at *
  clear q0 q1 q2 q3
  rintro e w5 ⟨rfl, hb⟩
  replace B := hid (B.out.trans (hb.mono B.out.size))
  replace W1 := hid (W1.out.below hb)
  replace W2 := hid (W2.out.below hb)
  replace WB := hid (WB.out.below hb WB.out.lt)
  replace G1 := hid (G1.out.below hb)
  replace G2 := hid (G2.out.below hb)
  replace GB := hid (GB.out.below hb GB.out.lt)
  clear hb
  have q0 := GB.out.cell (i := 0) rfl
  have q1 := GB.out.cell (i := 1) rfl
  go_wp2_with fail
  refine (mark_disk _ _ _ S L 1 _ (by decide) (by decide) (by have := HL.out.1; omega) (by have := HL.out.2; omega) G1.out G2.out).mono ?_
  clear q0 q1
  rintro e w6 ⟨rfl, hd, hf, hb⟩
  replace B := hid (B.out.trans (hb.mono hbsG.out))
  replace WB := hid (WB.out.fr G1.out G2.out hf (by decide) (by decide))
  replace GB := hid (GB.out.fr G1.out G2.out hf (by decide) (by decide))
  replace W1 := hid (W1.out.sub hb WLG.out.1)
  replace W2 := hid (W2.out.sub hb WLG.out.2)
  obtain ⟨va, vb, he, ho1, ho2⟩ := hd
  rw [marksS_len] at ho1
  rw [marksW_len] at ho2
  obtain ⟨rfl, rfl⟩ : .slice Ga S.length Gc = va ∧ .slice Gb L.length Gd = vb := by simpa using he
  have Gm1 := hid ho1
  have Gm2 := hid ho2
  clear ho1 ho2 hf hb he G1 G2
  have q0 := GB.out.cell (i := 0) rfl
  have q1 := GB.out.cell (i := 1) rfl
  go_wp2_with fail
  refine (held_disk _ S.length L.length 1 _ (by decide) (by decide) (by have := HL.out.1; omega) (by have := HL.out.2; omega) ⟨_, _, _, _, by rw [marksS_len, marksW_len], Gm1.out.rw, Gm2.out.rw⟩).mono ?_
  clear q0 q1
  rintro e w7 ⟨rfl, hb⟩
  replace B := hid (B.out.trans (hb.mono B.out.size))
  replace W1 := hid (W1.out.below hb)
  replace W2 := hid (W2.out.below hb)
  replace WB := hid (WB.out.below hb WB.out.lt)
  replace GB := hid (GB.out.below hb GB.out.lt)
  replace Gm1 := hid (Gm1.out.below hb)
  replace Gm2 := hid (Gm2.out.below hb)
  clear hb
  go_wp2_with fail
  refine (HIM.out _).mono ?_
  rintro e w8 ⟨v, rfl, ⟨va, vb, rfl, ho1, ho2⟩, hb⟩
  obtain ⟨Ha, Hc, rfl, Hp, _⟩ := ho1.shape
  obtain ⟨Hb, Hd, rfl, Hr, _⟩ := ho2.shape
  replace B := hid (B.out.trans (hb.mono B.out.size))
  replace W1 := hid (W1.out.below hb)
  replace W2 := hid (W2.out.below hb)
  replace WB := hid (WB.out.below hb WB.out.lt)
  replace GB := hid (GB.out.below hb GB.out.lt)
  replace Gm1 := hid (Gm1.out.below hb)
  replace Gm2 := hid (Gm2.out.below hb)
  have H1 := hid ho1
  have H2 := hid ho2
  have HP := hid (show _ ∧ _ from ⟨Hp, Hr⟩)
  clear hb ho1 ho2 Hp Hr
  have hb := (Below.refl w8.heap.size w8).alloc (Nat.le_refl _) (.cells #[.slice Ha S.length Hc, .slice Hb L.length Hd] 27)
  replace B := hid (B.out.trans (hb.mono B.out.size))
  replace W1 := hid (W1.out.below hb)
  replace W2 := hid (W2.out.below hb)
  replace WB := hid (WB.out.below hb WB.out.lt)
  replace GB := hid (GB.out.below hb GB.out.lt)
  replace Gm1 := hid (Gm1.out.below hb)
  replace Gm2 := hid (Gm2.out.below hb)
  replace H1 := hid (H1.out.below hb)
  replace H2 := hid (H2.out.below hb)
  have HB := hid (Blk.new w8 [.slice Ha S.length Hc, .slice Hb L.length Hd] 27)
  clear hb
  have q0 := HB.out.cell (i := 0) rfl
  have q1 := HB.out.cell (i := 1) rfl
  have q2 := WB.out.cell (i := 0) rfl
  have q3 := WB.out.cell (i := 1) rfl
  go_wp2_with fail
  refine (eq_disk _ _ S L _ (by have := HL.out.1; omega) (by have := HL.out.2; omega) ⟨_, _, _, _, rfl, H1.out.rw, H2.out.rw⟩ ⟨_, _, _, _, rfl, W1.out.rw, W2.out.rw⟩).mono ?_
  generalize w8.alloc (.cells #[.slice Ha S.length Hc, .slice Hb L.length Hd] 27) = w9 at *
  clear q0 q1 q2 q3
  rintro e w10 ⟨rfl, hb⟩
  replace B := hid (B.out.trans (hb.mono B.out.size))
  replace W1 := hid (W1.out.below hb)
  replace W2 := hid (W2.out.below hb)
  replace WB := hid (WB.out.below hb WB.out.lt)
  replace GB := hid (GB.out.below hb GB.out.lt)
  replace Gm1 := hid (Gm1.out.below hb)
  replace Gm2 := hid (Gm2.out.below hb)
  replace H1 := hid (H1.out.below hb)
  replace H2 := hid (H2.out.below hb)
  replace HB := hid (HB.out.below hb HB.out.lt)
  clear hb
  have q0 := GB.out.cell (i := 0) rfl
  have q1 := GB.out.cell (i := 1) rfl
  go_wp2_with fail
  refine (held_disk _ S.length L.length 1 _ (by decide) (by decide) (by have := HL.out.1; omega) (by have := HL.out.2; omega) ⟨_, _, _, _, by rw [marksS_len, marksW_len], Gm1.out.rw, Gm2.out.rw⟩).mono ?_
  clear q0 q1
  rintro e w11 ⟨rfl, hb⟩
  replace B := hid (B.out.trans (hb.mono B.out.size))
  replace W1 := hid (W1.out.below hb)
  replace W2 := hid (W2.out.below hb)
  replace WB := hid (WB.out.below hb WB.out.lt)
  replace GB := hid (GB.out.below hb GB.out.lt)
  replace Gm1 := hid (Gm1.out.below hb)
  replace Gm2 := hid (Gm2.out.below hb)
  replace H1 := hid (H1.out.below hb)
  replace H2 := hid (H2.out.below hb)
  replace HB := hid (HB.out.below hb HB.out.lt)
  clear hb
  go_wp2_with fail
  go_ret
  exact ⟨rfl, B.out⟩
end Go.Proofs.Ytlphojlccecnhaa
