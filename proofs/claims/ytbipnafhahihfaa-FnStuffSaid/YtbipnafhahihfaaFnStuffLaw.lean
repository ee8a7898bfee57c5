/- The walk of the law FnStuff. -/
import Derived.Test.YtbipnafhahihfaaStuffDraw
namespace Go.Proofs.Ytbipnafhahihfaa
open Go.RowKit
set_option linter.unusedVariables false

def AllB (xs : List Int) : Prop := ∀ x ∈ xs, 0 ≤ x ∧ x < 256
theorem AllB.bytes {xs : List Int} (h : AllB xs) : Bytes xs := by
  intro i hi
  have := h xs[i] (List.getElem_mem hi)
  simpa [List.getD, hi] using this
theorem AllB.append {xs ys : List Int} (h : AllB xs) (k : AllB ys) : AllB (xs ++ ys) := by
  intro x hx
  rcases List.mem_append.1 hx with h1 | h1
  · exact h x h1
  · exact k x h1
theorem AllB.one {x : Int} (h0 : 0 ≤ x) (h1 : x < 256) : AllB [x] := by
  intro y hy
  rw [List.mem_singleton.1 hy]
  exact ⟨h0, h1⟩
theorem allB_bl (s : ByteArray) : ∀ k, AllB (bl (bt s) k)
  | 0 => fun x hx => by simp [bl] at hx
  | k + 1 => by rw [bl]; exact (allB_bl s k).append (AllB.one (bt_nonneg s k) (bt_lt s k))
theorem allB_stuffL : ∀ xs, AllB xs → AllB (stuffL xs)
  | [], h => fun x hx => by simp [stuffL] at hx
  | c :: r, h => by
    have hc := h c (List.mem_cons_self ..)
    have hr := allB_stuffL r (fun x hx => h x (List.mem_cons_of_mem _ hx))
    rw [stuffL]
    refine AllB.append ?_ hr
    split
    · exact AllB.append (xs := [c]) (AllB.one hc.1 hc.2) (AllB.one (by decide) (by decide))
    · exact AllB.one hc.1 hc.2
theorem allB_unst (b : Nat → Int) (hb : ∀ j, 0 ≤ b j ∧ b j < 256) (n : Nat) : ∀ f i xs ys, AllB xs → unst b n f i xs = some ys → AllB ys
  | 0, i, xs, ys, h, hu => by
    simp only [unst, Option.some.injEq] at hu
    subst hu
    exact h
  | f + 1, i, xs, ys, h, hu => by
    rw [unst] at hu
    split at hu
    · cases hu
      exact h
    · split at hu
      · split at hu
        · cases hu
        · exact allB_unst b hb n f _ _ ys (h.append (AllB.one (hb i).1 (hb i).2)) hu
      · exact allB_unst b hb n f _ _ ys (h.append (AllB.one (hb i).1 (hb i).2)) hu

/-- In what is stuffed a byte 0 stands behind each byte 255. -/
theorem stuffL_marks : ∀ (xs : List Int) (i : Nat), i < (stuffL xs).length → (stuffL xs).getD i 0 = 255 → i + 1 < (stuffL xs).length ∧ (stuffL xs).getD (i + 1) 0 = 0
  | [], i, h, _ => by simp [stuffL] at h
  | c :: r, i, h, he => by
    by_cases h2 : c = 255
    · have e : stuffL (c :: r) = c :: 0 :: stuffL r := by rw [stuffL, if_pos h2]; rfl
      rw [e] at h he ⊢
      match i, h, he with
      | 0, _, _ => simp
      | 1, _, he => simp at he
      | i + 2, h, he =>
        have := stuffL_marks r i (by simpa using h) (by simpa [List.getD] using he)
        refine ⟨by simp only [List.length_cons]; omega, ?_⟩
        have h3 := this.2
        simpa [List.getD] using h3
    · have e : stuffL (c :: r) = c :: stuffL r := by rw [stuffL, if_neg h2]; rfl
      rw [e] at h he ⊢
      match i, h, he with
      | 0, _, he => exact absurd (by simpa using he) h2
      | i + 1, h, he =>
        have := stuffL_marks r i (by simpa using h) (by simpa [List.getD] using he)
        refine ⟨by simp only [List.length_cons]; omega, ?_⟩
        have h3 := this.2
        simpa [List.getD] using h3

theorem unR_stuff (s : ByteArray) (hs : s.size ≤ 60000) : unR (strOfNums (stuffTo (bt s) s.size)) = (s, true) := by
  have hy := allB_stuffL _ (allB_bl s s.size)
  rw [stuffTo_bl]
  have hu := unst_of_stuff (bt (strOfNums (stuffL (bl (bt s) s.size)))) (strOfNums (stuffL (bl (bt s) s.size))).size (bl (bt s) s.size) (strOfNums (stuffL (bl (bt s) s.size))).size 0 [] (by omega) (by omega)
    (fun j hj => by rw [Nat.zero_add]; rw [strOfNums_size] at hj; exact bt_nums _ j (by omega) (hy.bytes j (by omega)).1 (hy.bytes j (by omega)).2) (by rw [strOfNums_size]; omega)
  rw [List.nil_append] at hu
  rw [unR_some _ _ hu (by rw [bl_length]; omega), nums_text]

theorem stuff_unR (u : ByteArray) (h : (unR u).2 = true) : strOfNums (stuffTo (bt (unR u).1) (unR u).1.size) = u ∧ (unR u).1.size ≤ 60000 := by
  cases hu : unst (bt u) u.size u.size 0 [] with
  | none => rw [unR_none u hu] at h; cases h
  | some xs =>
    by_cases hl : 60000 < xs.length
    · rw [unR_long u xs hu hl] at h; cases h
    · rw [unR_some u xs hu hl]
      have hb := allB_unst (bt u) (fun j => ⟨bt_nonneg u j, bt_lt u j⟩) u.size u.size 0 [] xs (fun x hx => by simp at hx) hu
      have hst := unst_stuff (bt u) u.size u.size 0 [] xs (by omega) (by omega) rfl hu
      refine ⟨?_, by rw [strOfNums_size]; omega⟩
      rw [stuff_nums xs hb.bytes, hst, nums_text]

theorem marks_of (s : ByteArray) (i : Nat) (h : i < (strOfNums (stuffTo (bt s) s.size)).size) (he : bt (strOfNums (stuffTo (bt s) s.size)) i = 255) :
    i + 1 < (strOfNums (stuffTo (bt s) s.size)).size ∧ bt (strOfNums (stuffTo (bt s) s.size)) (i + 1) = 0 := by
  have hy := (allB_stuffL _ (allB_bl s s.size)).bytes
  rw [stuffTo_bl] at *
  rw [strOfNums_size] at h ⊢
  rw [bt_nums _ i h (hy i h).1 (hy i h).2] at he
  have hm := stuffL_marks _ i h he
  refine ⟨hm.1, ?_⟩
  rw [bt_nums _ (i + 1) hm.1 (hy _ hm.1).1 (hy _ hm.1).2]
  exact hm.2

theorem code_of {w : World} {ao : Option Addr} {n cap : Nat} {zs : List Int} (hr : IsRow .u8 w ao n cap zs) (hn : n ≤ 1048576) : Code w ao n (zs.take n) := ⟨hn, hr.view, hr.wf⟩

set_option maxRecDepth 100000 in
set_option maxHeartbeats 3200000 in
theorem law_fnStuff (ao : Option Addr) (n cap : Nat) (zs : List Int) (w : World) (hr : IsRow .u8 w ao n cap zs) :
    Calls Try.prog 3 #[.slice ao n cap] w fun e w' => e = .returned (.bool true) ∧ Below w.heap.size w w' := by
  have hlen := hr.len.1
  by_cases hl : (1048576 : Int) < (n : Int)
  · have hd : decide ((1048576 : Int) < (n : Int)) = true := by simpa using hl
    clear hr
    go_enter Try.func3, Try.ntmps3
    go_wp2_with (go_at_call 7; refine (big_any _ _ _ _).mono ?_; rw [hd]; rintro e w' ⟨rfl, rfl⟩)
    go_ret
    exact ⟨rfl, Below.refl _ _⟩
  · have hd : decide ((1048576 : Int) < (n : Int)) = false := by simpa using hl
    have HR := hid hr
    have hn : n ≤ 1048576 := by omega
    have HC := hid (code_of hr hn)
    clear hr hl
    go_enter Try.func3, Try.ntmps3
    go_wp2_with fail
    refine (big_any _ _ _ _).mono ?_
    rw [hd]
    rintro e w' ⟨rfl, rfl⟩
    go_wp2_with fail
    refine (draw_stuff ao n cap _ w HC.out).mono ?_
    rintro e w1 ⟨s, rfl, hs, hb1⟩
    have B1 := hid hb1
    clear hb1 hlen
    go_wp2_with fail
    refine (impl_stuff s w1 (by omega)).mono ?_
    rintro e w2 ⟨rfl, hb2⟩
    have B2 := hid (B1.out.trans (hb2.mono B1.out.size))
    have hT : (strOfNums (stuffTo (bt s) s.size)).size ≤ 200 := by rw [strOfNums_size]; have := stuffTo_length (bt s) s.size; omega
    have hTs : s.size ≤ (strOfNums (stuffTo (bt s) s.size)).size := by rw [strOfNums_size]; exact (stuffTo_length (bt s) s.size).1
    have HM := hid (marks_of s)
    have HU := hid (unR_stuff s (by omega))
    generalize strOfNums (stuffTo (bt s) s.size) = T at *
    clear hb2 B1
    go_wp2
    go_loop [5] (fun i => ∃ k : Nat, k ≤ T.size ∧ i = .int .i64 k) (fun i => T.size - (intOf i).toNat)
    case atStart => exact ⟨0, by omega, rfl⟩
    case round =>
      obtain ⟨k, hk, rfl⟩ := hrel
      by_cases hkT : k < T.size
      · have hkT' : (k : Int) < (T.size : Int) := by omega
        by_cases h255 : (T[k].toNat : Int) = 255
        · obtain ⟨hk1, hz⟩ := HM.out k hkT (by rw [bt_eq T k hkT]; exact h255)
          rw [bt_eq T (k + 1) hk1] at hz
          have q0 : ((T[k].toNat : Int) == 255) = true := by simpa using h255
          have q1 : ((k : Int) + 1 == (T.size : Int)) = false := by simp; omega
          have q2 : ((T[k + 1].toNat : Int) != 0) = false := by simpa using hz
          have q3 : (k : Int) + 1 < (T.size : Int) := by omega
          clear h255 hz
          go_wp2
          go_round
          case rel => exact ⟨k + 1, by omega, by go_num⟩
          case measure => simp [intOf]; omega
        · have q0 : ((T[k].toNat : Int) == 255) = false := by simpa using h255
          clear h255
          go_wp2
          go_round
          case rel => exact ⟨k + 1, by omega, by go_num⟩
          case measure => simp [intOf]; omega
      · obtain rfl : k = T.size := by omega
        clear HM
        go_wp2_with fail
        refine (impl_unstuff_any T w2 (by omega)).mono ?_
        rintro e w3 ⟨rfl, hb3⟩
        rw [HU.out]
        have B3 := hid (B2.out.trans (hb3.mono B2.out.size))
        clear hb3 B2 HU
        go_wp2_with fail
        refine (draw_unstuff ao n cap (zs.take n) w3 ⟨hn, HC.out.2.1.below (Nat.le_refl _) B3.out, HC.out.2.2⟩).mono ?_
        rintro e w4 ⟨u, rfl, hu, hb4⟩
        have B4 := hid (B3.out.trans (hb4.mono B3.out.size))
        clear hb4 B3
        go_wp2_with fail
        refine (impl_unstuff_any u w4 (by omega)).mono ?_
        rintro e w5 ⟨rfl, hb5⟩
        have B5 := hid (B4.out.trans (hb5.mono B4.out.size))
        clear hb5 B4
        go_wp2_with fail
        refine (spec_unstuff u w5 (by omega)).mono ?_
        rintro e w6 ⟨rfl, hb6⟩
        have B6 := hid (B5.out.trans (hb6.mono B5.out.size))
        clear hb6 B5
        have HSU := hid (stuff_unR u)
        generalize (unR u).1 = P at *
        generalize (unR u).2 = F at *
        have hge : (s.size : Int) ≤ (T.size : Int) := by omega
        cases F with
        | false =>
          clear HSU
          go_wp2
          go_ret
          exact ⟨rfl, B6.out⟩
        | true =>
          obtain ⟨hu1, hu2⟩ := HSU.out rfl
          have HU1 := hid hu1
          clear HSU hu1
          go_wp2_with fail
          refine (impl_stuff P w6 hu2).mono ?_
          rintro e w7 ⟨rfl, hb7⟩
          rw [HU1.out]
          have B7 := hid (B6.out.trans (hb7.mono B6.out.size))
          clear hb7 B6
          go_wp2
          go_ret
          exact ⟨rfl, B7.out⟩
end Go.Proofs.Ytbipnafhahihfaa
