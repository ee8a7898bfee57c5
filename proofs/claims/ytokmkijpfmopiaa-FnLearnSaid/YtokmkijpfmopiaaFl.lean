/- The law FnLearn: what is drawn, and a chance that moves 301 times towards what came. -/
import Derived.Test.YtokmkijpfmopiaaDraw
import Derived.Test.YtokmkijpfmopiaaLe
namespace Go.Proofs.Ytokmkijpfmopiaa
open Go.RowKit
set_option linter.unusedVariables false

/-- Learn, k times. -/
def lt (b : Int) (p : Int) : Nat → Int
  | 0 => p
  | k + 1 => lrn (lt b p k) b
theorem lrn1 {p : Int} (h1 : 1 ≤ p) (h2 : p ≤ 4095) : lrn p 1 = p + (4096 - p) / 16 := by
  unfold lrn
  rw [if_pos ⟨(isCh_iff p).2 ⟨h1, h2⟩, by decide⟩, if_pos rfl]
theorem lrn0 {p : Int} (h1 : 1 ≤ p) (h2 : p ≤ 4095) : lrn p 0 = p - p / 16 := by
  unfold lrn
  rw [if_pos ⟨(isCh_iff p).2 ⟨h1, h2⟩, by decide⟩, if_neg (by decide)]
theorem lt1 {p q : Int} (h1 : 1 ≤ p) (hpq : p ≤ q) (h2 : q ≤ 4095) : ∀ k, 1 ≤ lt 1 p k ∧ lt 1 p k ≤ lt 1 q k ∧ lt 1 q k ≤ 4095 ∧ q ≤ lt 1 q k
  | 0 => ⟨h1, hpq, h2, Int.le_refl _⟩
  | k + 1 => by
    obtain ⟨a, b, c, d⟩ := lt1 h1 hpq h2 k
    simp only [lt]
    rw [lrn1 a (by omega), lrn1 (by omega) c]
    omega
theorem lt0 {p q : Int} (h1 : 1 ≤ p) (hpq : p ≤ q) (h2 : q ≤ 4095) : ∀ k, 1 ≤ lt 0 p k ∧ lt 0 p k ≤ lt 0 q k ∧ lt 0 q k ≤ 4095 ∧ lt 0 p k ≤ p
  | 0 => ⟨h1, hpq, h2, Int.le_refl _⟩
  | k + 1 => by
    obtain ⟨a, b, c, d⟩ := lt0 h1 hpq h2 k
    simp only [lt]
    rw [lrn0 a (by omega), lrn0 (by omega) c]
    omega
theorem lt1_end : 4000 < lt 1 1 301 := by decide +kernel
theorem lt0_end : lt 0 4095 301 < 100 := by decide +kernel
theorem fin1 {p : Int} (h1 : 1 ≤ p) (h2 : p ≤ 4095) : 1 ≤ lt 1 p 301 ∧ lt 1 p 301 ≤ 4095 ∧ p ≤ lt 1 p 301 ∧ 4000 < lt 1 p 301 := by
  have a := lt1 (Int.le_refl 1) h1 h2 301
  have b := lt1_end
  omega
theorem fin0 {p : Int} (h1 : 1 ≤ p) (h2 : p ≤ 4095) : 1 ≤ lt 0 p 301 ∧ lt 0 p 301 ≤ 4095 ∧ lt 0 p 301 ≤ p ∧ lt 0 p 301 < 100 := by
  have a := lt0 h1 h2 (Int.le_refl 4095) 301
  have b := lt0_end
  omega

def l1 : List Int := [1, 4095, 2048]
def l2 : List Int := [0, 4096, -1]
def l3 : List Int := [0, 1, 0, 1, 0, 1, 2, -1]

set_option maxRecDepth 100000 in
set_option maxHeartbeats 1600000 in
theorem p_any (w0 : World) (ao : Option Addr) (n cap C : Nat) (zs : List Int) (w : World) (hcode : Code w0 ao n zs) (hcur : Cur w0 ao n cap C w) :
    Calls Try.prog 26 #[.pointer (some ⟨C, 0, none⟩)] w fun e w' => ∃ x : Int, e = .returned (.int .i64 x) ∧ Cur w0 ao n cap C w' ∧ Eff C w w' := by
  have HC := hid hcode
  have HF := hid (below_any w0 ao n cap C zs 6 w hcode hcur)
  clear hcode hcur
  go_enter Try.func26, Try.ntmps26
  go_wp2_with fail
  refine HF.out.mono ?_
  rintro e w1 ⟨y, rfl, ⟨hy0, hy1⟩, hc1, he1⟩
  have hy2 : y < 6 := by omega
  have hlt := hc1.lt
  have HC1 := hid hc1
  have HE1 := hid he1
  clear hc1 he1 hy1 HF
  by_cases y0 : y = 0
  · subst y0
    go_wp2_with fail
    refine (pick_any w0 ao n cap C zs w1.heap.size 3 _ l1 _ HC.out (HC1.out.below ((Below.refl _ _).alloc (Nat.le_refl _) _)) (by decide) rfl (by decide) hlt ?_).mono ?_
    · intro j hj
      obtain rfl | rfl | rfl : j = 0 ∨ j = 1 ∨ j = 2 := by omega
      all_goals simp [l1]
    · rintro e w2 ⟨j, hj, rfl, hc2, he2⟩
      generalize l1.getD j 0 = Y at *
      have HC2 := hid hc2
      have HE2 := hid ((HE1.out.alloc _).trans he2)
      clear hc2 he2
      go_wp2_with fail
      go_ret
      exact ⟨_, rfl, HC2.out, HE2.out⟩
  · by_cases y1 : y = 1
    · subst y1
      go_wp2_with fail
      refine (once_any w0 ao n cap C zs 6 w1 HC.out HC1.out).mono ?_
      rintro e w2 ⟨bb, rfl, hc2, he2⟩
      have hlt2 := hc2.lt
      have HC2 := hid hc2
      have HE2 := hid (HE1.out.trans he2)
      clear hc2 he2 HC1 HE1
      cases bb with
      | true =>
        go_wp2_with fail
        refine (pick_any w0 ao n cap C zs w2.heap.size 3 _ l2 _ HC.out (HC2.out.below ((Below.refl _ _).alloc (Nat.le_refl _) _)) (by decide) rfl (by decide) hlt2 ?_).mono ?_
        · intro j hj
          obtain rfl | rfl | rfl : j = 0 ∨ j = 1 ∨ j = 2 := by omega
          all_goals simp [l2]
        · rintro e w3 ⟨j, hj, rfl, hc3, he3⟩
          generalize l2.getD j 0 = Y at *
          have HC3 := hid hc3
          have HE3 := hid ((HE2.out.alloc _).trans he3)
          clear hc3 he3
          go_wp2_with fail
          go_ret
          exact ⟨_, rfl, HC3.out, HE3.out⟩
      | false =>
        go_wp2_with fail
        refine (below_any w0 ao n cap C zs 4095 w2 HC.out HC2.out).mono ?_
        rintro e w3 ⟨x, rfl, ⟨hx0, hx1⟩, hc3, he3⟩
        have hx2 : x < 4095 := by omega
        have HC3 := hid hc3
        have HE3 := hid (HE2.out.trans he3)
        clear hc3 he3 hx1
        go_wp2_with fail
        go_ret
        exact ⟨_, rfl, HC3.out, HE3.out⟩
    · have e0 : (y == 0) = false := by simpa using y0
      have e1 : (y == 1) = false := by simpa using y1
      go_wp2_with fail
      refine (below_any w0 ao n cap C zs 4095 w1 HC.out HC1.out).mono ?_
      rintro e w3 ⟨x, rfl, ⟨hx0, hx1⟩, hc3, he3⟩
      have hx2 : x < 4095 := by omega
      have HC3 := hid hc3
      have HE3 := hid (HE1.out.trans he3)
      clear hc3 he3 hx1
      go_wp2_with fail
      go_ret
      exact ⟨_, rfl, HC3.out, HE3.out⟩

set_option maxRecDepth 100000 in
set_option maxHeartbeats 1600000 in
theorem draw_learn (ao : Option Addr) (n cap : Nat) (zs : List Int) (w : World) (hcode : Code w ao n zs) :
    Calls Try.prog 10 #[.slice ao n cap] w fun e w' => ∃ p b : Int, e = .returned (.tuple #[.int .i64 p, .int .i64 b]) ∧ Below w.heap.size w w' := by
  have HC := hid hcode
  clear hcode
  go_enter Try.func10, Try.ntmps10
  go_wp2_with fail
  refine (new_any ao n cap zs w HC.out).mono ?_
  rintro e w1 ⟨C, rfl, hc1, hb1⟩
  have HC1 := hid hc1
  have B1 := hid hb1
  have hCw := hc1.1
  clear hc1 hb1
  go_wp2_with fail
  refine (p_any w ao n cap C zs w1 HC.out HC1.out).mono ?_
  rintro e w2 ⟨x, rfl, hc2, he2⟩
  have hlt2 := hc2.lt
  have HC2 := hid hc2
  have B2 := hid (B1.out.trans ((he2.below (Nat.le_of_lt HC1.out.lt)).mono hCw))
  clear hc2 he2
  go_wp2_with fail
  refine (pick_any w ao n cap C zs w2.heap.size 8 _ l3 _ HC.out (HC2.out.below ((Below.refl _ _).alloc (Nat.le_refl _) _)) (by decide) rfl (by decide) hlt2 ?_).mono ?_
  · intro j hj
    obtain rfl | rfl | rfl | rfl | rfl | rfl | rfl | rfl : j = 0 ∨ j = 1 ∨ j = 2 ∨ j = 3 ∨ j = 4 ∨ j = 5 ∨ j = 6 ∨ j = 7 := by omega
    all_goals simp [l3]
  · rintro e w3 ⟨j, hj, rfl, hc3, he3⟩
    generalize l3.getD j 0 = Y at *
    have B3 := hid ((B2.out.alloc B2.out.size _).trans ((he3.below (Nat.le_trans (Nat.le_of_lt hlt2) (by simp))).mono hCw))
    clear hc3 he3
    go_wp2_with fail
    go_ret2
    exact ⟨_, _, rfl, B3.out⟩

theorem big_any (ao : Option Addr) (n cap : Nat) (w : World) :
    Calls Try.prog 9 #[.slice ao n cap] w fun e w' => e = .returned (.bool (decide ((1048576 : Int) < (n : Int)))) ∧ w = w' := by
  go_enter Try.func9, Try.ntmps9
  go_wp2
  go_ret
  exact ⟨rfl, rfl⟩

set_option maxRecDepth 100000 in
set_option maxHeartbeats 1600000 in
theorem law_fnlearn (ao : Option Addr) (n cap : Nat) (zs : List Int) (w : World) (hr : IsRow .u8 w ao n cap zs) :
    Calls Try.prog 3 #[.slice ao n cap] w fun e w' => e = .returned (.bool true) ∧ Below w.heap.size w w' := by
  have HBIG := hid (big_any ao n cap w)
  by_cases hn : (1048576 : Int) < (n : Int)
  · rw [decide_eq_true hn] at HBIG
    clear hn
    go_enter Try.func3, Try.ntmps3
    go_wp2_with fail
    refine HBIG.out.mono ?_
    rintro e w1 ⟨rfl, rfl⟩
    go_wp2_with fail
    go_ret
    exact ⟨rfl, Below.refl _ _⟩
  · rw [decide_eq_false hn] at HBIG
    have HD := hid (draw_learn ao n cap (zs.take n) w ⟨by omega, hr.view, hr.wf⟩)
    clear hn hr
    go_enter Try.func3, Try.ntmps3
    go_wp2_with fail
    refine HBIG.out.mono ?_
    rintro e w1 ⟨rfl, rfl⟩
    go_wp2_with fail
    refine HD.out.mono ?_
    rintro e w2 ⟨p, b, rfl, hb2⟩
    have B2 := hid hb2
    clear hb2 HD HBIG
    have HI := hid (fun q => impl_learn q b w2)
    have HS := hid (spec_learn p b w2)
    go_wp2_with fail
    refine (HI.out p).mono ?_
    rintro e w3 ⟨rfl, rfl⟩
    go_wp2_with fail
    refine HS.out.mono ?_
    rintro e w3 ⟨rfl, rfl⟩
    clear HS
    by_cases hp1 : p < 1
    · have HL := hid (lrn_no (p := p) (b := b) (fun h => by have := (isCh_iff p).1 h.1; omega))
      rw [← HL.out]
      go_wp2_with fail
      go_ret
      exact ⟨by simp, B2.out⟩
    · by_cases hp2 : 4095 < p
      · have HL := hid (lrn_no (p := p) (b := b) (fun h => by have := (isCh_iff p).1 h.1; omega))
        rw [← HL.out]
        go_wp2_with fail
        go_ret
        exact ⟨by simp, B2.out⟩
      · by_cases hb1 : b < 0
        · have HL := hid (lrn_no (p := p) (b := b) (fun h => by omega))
          rw [← HL.out]
          go_wp2_with fail
          go_ret
          exact ⟨by simp, B2.out⟩
        · by_cases hb2 : 1 < b
          · have HL := hid (lrn_no (p := p) (b := b) (fun h => by omega))
            rw [← HL.out]
            go_wp2_with fail
            go_ret
            exact ⟨by simp, B2.out⟩
          · have hF1 : Hid (b = 1 → 1 ≤ lt 1 p 301 ∧ lt 1 p 301 ≤ 4095 ∧ p ≤ lt 1 p 301 ∧ 4000 < lt 1 p 301) := fun _ => fin1 (by omega) (by omega)
            have hF0 : Hid (b = 0 → 1 ≤ lt 0 p 301 ∧ lt 0 p 301 ≤ 4095 ∧ lt 0 p 301 ≤ p ∧ lt 0 p 301 < 100) := fun _ => fin0 (by omega) (by omega)
            have HL1 : Hid (lrn p b = lt b p 1) := rfl
            rw [HL1.out]
            go_wp2_with fail
            go_loopw [5, 6] (fun q i wr => ∃ k : Nat, k ≤ 300 ∧ i = .int .i64 k ∧ q = .int .i64 (lt b p (k + 1)) ∧ wr = w2) (fun _ i _ => 300 - (intOf i).toNat)
            case atStart => exact ⟨0, by omega, rfl, rfl, rfl⟩
            case round =>
              obtain ⟨k, hk, rfl, rfl, rfl⟩ := hrel
              by_cases hlt : k < 300
              · have hlt' : (k : Int) < 300 := by omega
                have HK := hid (HI.out (lt b p (k + 1)))
                have e1 : lrn (lt b p (k + 1)) b = lt b p (k + 1 + 1) := rfl
                rw [e1] at HK
                clear e1
                generalize lt b p (k + 1) = Q at *
                obtain ⟨Q2, hQ2⟩ : ∃ Q2, lt b p (k + 1 + 1) = Q2 := ⟨_, rfl⟩
                rw [hQ2] at HK
                have HQ2 := hid hQ2
                clear hQ2
                go_wp2_with fail
                refine HK.out.mono ?_
                rintro e w3 ⟨rfl, rfl⟩
                go_wp2_with fail
                go_roundw
                case rel => exact ⟨k + 1, by omega, by go_num, by rw [HQ2.out], by first | rfl | trivial⟩
                case measure => simp [intOf]; omega
              · obtain rfl : k = 300 := by omega
                obtain rfl | rfl : b = 0 ∨ b = 1 := by omega
                · obtain ⟨a1, a2, a3, a4⟩ := hF0.out rfl
                  clear HI HL1 hF0 hF1 hlt hk
                  generalize lt 0 p 301 = Q at *
                  go_wp2_with fail
                  go_ret
                  exact ⟨rfl, B2.out⟩
                · obtain ⟨a1, a2, a3, a4⟩ := hF1.out rfl
                  clear HI HL1 hF0 hF1 hlt hk
                  generalize lt 1 p 301 = Q at *
                  go_wp2_with fail
                  go_ret
                  exact ⟨rfl, B2.out⟩
end Go.Proofs.Ytokmkijpfmopiaa
