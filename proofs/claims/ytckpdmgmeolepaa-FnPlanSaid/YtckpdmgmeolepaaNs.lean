/- The contract of the specification's next decision. -/
import Derived.Test.YtckpdmgmeolepaaMark
import Derived.Test.YtckpdmgmeolepaaWk
namespace Go.Proofs.Ytckpdmgmeolepaa
open Go.RowKit
set_option linter.unusedVariables false

theorem bnum_snoc (l : List Int) : ∀ (b a : Int), bnum (l ++ [b]) a = bnum l a * 2 + b := by
  induction l with
  | nil => intro b a; rfl
  | cons c l ih => intro b a; rw [List.cons_append, bnum, ih, bnum]
theorem num_bnum (xs : List Int) : ∀ k, k ≤ xs.length → num (pad xs) 0 k = bnum (xs.take k) 0
  | 0, _ => by simp [num, bnum]
  | k + 1, h => by
    rw [num, num_bnum xs k (by omega), Nat.zero_add, pad_in xs k (by omega)]
    have e : xs.take (k + 1) = xs.take k ++ [xs.getD k 0] := by
      rw [List.take_add_one, List.getD_eq_getElem?_getD, List.getElem?_eq_getElem (by omega)]
      rfl
    rw [e, bnum_snoc]
    omega
theorem pow_le_2048' (n : Nat) (h : n ≤ 11) : (0 : Int) < 2 ^ n ∧ (2 : Int) ^ n ≤ 2048 := by
  have h1 := pow2_mono n (11 - n)
  rw [show n + (11 - n) = 11 by omega] at h1
  exact ⟨Int.pow_pos (by decide), h1⟩
theorem View.drop {w : World} {b off n : Nat} {xs : List Int} (hv : View .i64 w (some ⟨b, off, none⟩) n xs) (k : Nat) (hk : k ≤ n) : View .i64 w (some ⟨b, off + k, none⟩) (n - k) (xs.drop k) := by
  refine ⟨by rw [List.length_drop, hv.1], fun i hi => ?_⟩
  obtain ⟨b', off', he, hc⟩ := hv.2 (k + i) (by omega)
  cases he
  refine ⟨b, off + k, rfl, ?_⟩
  rw [show off + k + i = off + (k + i) by omega, hc]
  simp [List.getD_eq_getElem?_getD]
theorem drop_cons (xs : List Int) (k : Nat) (h : k < xs.length) : xs.drop k = xs.getD k 0 :: xs.drop (k + 1) := by
  rw [List.drop_eq_getElem_cons h, List.getD_eq_getElem?_getD, List.getElem?_eq_getElem h]
  rfl
/-- What l07Next answers. -/
def nxV (l : List Int) : Value := .tuple #[.int .i64 (nextS l).1, .int .i64 (nextS l).2]

set_option maxRecDepth 100000 in
set_option maxHeartbeats 1600000 in
theorem spec_next_long (bb off n cap : Nat) (xs : List Int) (w : World) (hn : n ≤ 1048576) (hcap : n ≤ cap) (h2 : 2 ≤ n) (hx0 : xs.getD 0 0 = 0) (hv : View .i64 w (some ⟨bb, off, none⟩) n xs) (hbit : ∀ j, j < n → Bit (xs.getD j 0)) :
    Calls Try.prog 45 #[.slice (some ⟨bb, off, none⟩) n cap] w fun e w' => e = .returned (.tuple #[.int .i64 (sizeS (xs.getD 1 0) 10 1 (xs.drop 2)).1, .int .i64 (sizeS (xs.getD 1 0) 10 1 (xs.drop 2)).2]) ∧ ∃ q, w' = w.drewN q := by
  have HY := hid (specBits_yes (some ⟨bb, off, none⟩) n cap xs w hn hv hbit)
  have HB := hid hbit
  have HV := hid hv
  have HCP := hid hcap
  have c0 : w.cell? ⟨bb, off, none⟩ = some (.int .i64 0) := by
    obtain ⟨b', off', he, hc⟩ := hv.2 0 (by omega)
    cases he
    rw [hx0] at hc
    exact hc
  have c1 : w.cell? ⟨bb, off + 1, none⟩ = some (.int .i64 (xs.getD 1 0)) := by
    obtain ⟨b', off', he, hc⟩ := hv.2 1 (by omega)
    cases he
    exact hc
  have hs := hid (hbit 1 (by omega))
  have h0n' : ((n : Int) == 0) = false := by simp; omega
  have h1n' : ((n : Int) == 1) = false := by simp; omega
  have h1n : (1 : Int) < (n : Int) := by omega
  generalize xs.getD 1 0 = s at *
  generalize hR : sizeS s 10 1 (xs.drop 2) = RR
  have HR := hid hR
  obtain ⟨R1, R2⟩ := RR
  clear hv hbit hR hx0 hcap
  go_enter Try.func45, Try.ntmps45
  go_wp2_with fail
  refine HY.out.mono ?_
  rintro e w1 ⟨rfl, rfl⟩
  go_wp2_with fail
  go_loopw [4, 5] (fun a b wr => ∃ k : Nat, 1 ≤ k ∧ k ≤ 11 ∧ k + 1 ≤ n ∧ a = .int .i64 k ∧ b = .int .i64 ((k + 1 : Nat) : Int) ∧ wr = w ∧ Hid (sizeS s (11 - k) k (xs.drop (k + 1)) = (R1, R2))) (fun a _ _ => 11 - (intOf a).toNat)
  case atStart => exact ⟨1, by omega, by omega, by omega, rfl, rfl, rfl, HR.out⟩
  case round =>
    obtain ⟨k, k1, k2, k3, rfl, rfl, rfl, hrec⟩ := hrel
    clear HR
    by_cases hk : k ≤ 10
    · obtain ⟨f, hf⟩ : ∃ f, 11 - k = f + 1 := ⟨10 - k, by omega⟩
      have hk' : (k : Int) ≤ 10 := by omega
      by_cases hkn : k + 1 = n
      · have HE : Hid (R1 = 1 + (k : Int) ∧ R2 = 0) := by
          have h := hrec.out
          rw [hf, List.drop_of_length_le (by rw [HV.out.1]; omega), sizeS] at h
          cases h
          exact ⟨rfl, rfl⟩
        obtain ⟨rfl, rfl⟩ := HE.out
        subst hkn
        clear HE hf hk hrec
        go_wp2_with fail
        go_ret2
        exact ⟨rfl, 0, rfl⟩
      · obtain ⟨b', off', he, hc⟩ := HV.out.2 (k + 1) (by omega)
        cases he
        have hb1 := HB.out (k + 1) (by omega)
        have hdr := drop_cons xs (k + 1) (by rw [HV.out.1]; omega)
        have hkn' : (((k + 1 : Nat) : Int) == (n : Int)) = false := by simp; omega
        generalize xs.getD (k + 1) 0 = X at *
        rcases hb1 with rfl | rfl
        · have HT : Hid (restS s k (xs.drop (k + 2)) = (R1, R2)) := by
            have h := hrec.out
            rw [hf, hdr, sizeS, if_pos rfl] at h
            exact h
          clear hrec hf hdr
          have hd := hid (show (xs.drop (k + 2)).length = n - (k + 2) from by rw [List.length_drop, HV.out.1])
          have hAn : (k + 2) ≤ n := by omega
          by_cases t1 : k - 1 < n - (k + 2)
          · have HE : Hid (R1 = -2 ∧ R2 = 0) := by
              have h := HT.out
              unfold restS at h
              rw [hd.out, if_pos t1] at h
              cases h
              exact ⟨rfl, rfl⟩
            obtain ⟨rfl, rfl⟩ := HE.out
            have t2 : (k : Int) - 1 < (n : Int) - ((k : Int) + 1 + 1) := by omega
            clear HE t1
            go_wp2_with fail
            go_ret2
            exact ⟨rfl, 0, rfl⟩
          · have t2 : ¬ (k : Int) - 1 < (n : Int) - ((k : Int) + 1 + 1) := by omega
            by_cases t3 : n - (k + 2) < k - 1
            · have HE : Hid (R1 = 12 + ((n : Int) - ((k : Int) + 1 + 1)) ∧ R2 = 0) := by
                have h := HT.out
                unfold restS at h
                rw [hd.out, if_neg t1, if_pos t3] at h
                cases h
                exact ⟨by omega, rfl⟩
              obtain ⟨rfl, rfl⟩ := HE.out
              have t4 : (n : Int) - ((k : Int) + 1 + 1) < (k : Int) - 1 := by omega
              clear HE t1 t3
              go_wp2_with fail
              go_ret2
              exact ⟨rfl, 0, rfl⟩
            · have t4 : ¬ (n : Int) - ((k : Int) + 1 + 1) < (k : Int) - 1 := by omega
              have hlen : n - (k + 2) = k - 1 := by omega
              have HE : Hid (R1 = -1 ∧ R2 = if s = 1 then -(2 ^ (k - 1) + bnum (xs.drop (k + 2)) 0) else 2 ^ (k - 1) + bnum (xs.drop (k + 2)) 0) := by
                have h := HT.out
                unfold restS at h
                rw [hd.out, if_neg t1, if_neg t3] at h
                cases h
                exact ⟨rfl, rfl⟩
              have hPW := pow2_any (k - 1)
              have HP : Hid (∀ q, Calls Try.prog 39 #[.int .i64 ((k : Int) - 1)] q fun e w' => e = .returned (.int .i64 (2 ^ (k - 1))) ∧ w' = q) := fun q => by
                have := pow2_any (k - 1) q (by omega)
                rw [show (((k - 1 : Nat)) : Int) = (k : Int) - 1 by omega] at this
                exact this.mono fun _ _ ⟨a, b⟩ => ⟨a, b.symm⟩
              have hbn := num_bnum (xs.drop (k + 2)) (n - (k + 2)) (by rw [hd.out]; exact Nat.le_refl _)
              rw [List.take_of_length_le (by rw [hd.out]; exact Nat.le_refl _)] at hbn
              have hpb := num_bd (pad (xs.drop (k + 2))) (pad_bit _ (fun j hj => by
                have := HB.out ((k + 2) + j) (by rw [hd.out] at hj; omega)
                rw [List.getD_eq_getElem?_getD] at this ⊢
                rw [List.getElem?_drop]
                exact this)) 0 (n - (k + 2))
              have HBN : Hid (∀ j, Calls Try.prog 64 #[.slice (if cap = (k + 1 + 1) then some ⟨bb, off, none⟩ else some ⟨bb, off + (k + 1 + 1), none⟩) (k - 1) (cap - (k + 1 + 1))] (wr.drewN j) fun e w' => e = .returned (.int .i64 (bnum (xs.drop (k + 2)) 0)) ∧ w' = wr.drewN j) := fun j => by
                have hq : View .i64 (wr.drewN j) (if cap = (k + 1 + 1) then some ⟨bb, off, none⟩ else some ⟨bb, off + (k + 1 + 1), none⟩) (n - (k + 2)) (xs.drop (k + 2)) := by
                  by_cases hc2 : cap = (k + 1 + 1)
                  · exact ⟨hd.out, fun i hi => by have := HCP.out; omega⟩
                  · rw [if_neg hc2]
                    exact View.drop HV.out (k + 2) hAn
                have := spec_bitsNum _ (n - (k + 2)) (cap - (k + 1 + 1)) (xs.drop (k + 2)) (wr.drewN j) (by omega) hq (fun j hj => by
                  have := HB.out ((k + 2) + j) (by omega)
                  rw [List.getD_eq_getElem?_getD] at this ⊢
                  rw [List.getElem?_drop]
                  exact this)
                rw [hbn, hlen] at this
                exact this.mono fun _ _ ⟨a, b⟩ => ⟨a, b.symm⟩
              have HVD := hid (View.drop HV.out (k + 2) hAn)
              have hB2 := pow_le_2048' (k - 1) (by omega)
              rw [hbn, hlen] at hpb
              generalize bnum (xs.drop (k + 2)) 0 = BN at *
              generalize (2 : Int) ^ (k - 1) = PW at *
              clear hPW hbn t1 t3
              go_wp2_with fail
              go_quiet (first | (go_at_call 39; exact Calls.quiet_of_same (HP.out _)) | (go_at_call 64; exact Calls.quiet_of_same (HBN.out _)))
              rcases hs.out with rfl | rfl
              · obtain ⟨rfl, rfl⟩ : R1 = -1 ∧ R2 = PW + BN := ⟨HE.out.1, by have := HE.out.2; rw [if_neg (by decide)] at this; exact this⟩
                clear HE HT HBN HVD HP
                go_wp2_with fail
                all_goals
                  go_ret2
                  exact ⟨rfl, _, rfl⟩
              · obtain ⟨rfl, rfl⟩ : R1 = -1 ∧ R2 = -(PW + BN) := ⟨HE.out.1, by have := HE.out.2; rw [if_pos rfl] at this; exact this⟩
                clear HE HT HBN HVD HP
                go_wp2_with fail
                all_goals
                  go_ret2
                  exact ⟨rfl, _, rfl⟩
        · have HT : Hid (sizeS s (11 - (k + 1)) (k + 1) (xs.drop (k + 1 + 1)) = (R1, R2)) := by
            have h := hrec.out
            rw [hf, hdr, sizeS, if_neg (by decide)] at h
            rw [show 11 - (k + 1) = f by omega]
            exact h
          clear hrec hf hdr
          go_wp2_with fail
          go_roundw
          case rel => exact ⟨k + 1, by omega, by omega, by omega, by go_num, by go_num, by first | rfl | trivial, HT.out⟩
          case measure => simp [intOf]; omega
    · obtain rfl : k = 11 := by omega
      have HT : Hid (restS s 11 (xs.drop 12) = (R1, R2)) := hrec.out
      clear hrec
      have hd := hid (show (xs.drop 12).length = n - 12 from by rw [List.length_drop, HV.out.1])
      have hAn : 12 ≤ n := by omega
      by_cases t1 : 11 - 1 < n - 12
      · have HE : Hid (R1 = -2 ∧ R2 = 0) := by
          have h := HT.out
          unfold restS at h
          rw [hd.out, if_pos t1] at h
          cases h
          exact ⟨rfl, rfl⟩
        obtain ⟨rfl, rfl⟩ := HE.out
        have t2 : (11 : Int) - 1 < (n : Int) - 12 := by omega
        clear HE t1
        go_wp2_with fail
        go_ret2
        exact ⟨rfl, 0, rfl⟩
      · have t2 : ¬ (11 : Int) - 1 < (n : Int) - 12 := by omega
        by_cases t3 : n - 12 < 11 - 1
        · have HE : Hid (R1 = 12 + ((n : Int) - 12) ∧ R2 = 0) := by
            have h := HT.out
            unfold restS at h
            rw [hd.out, if_neg t1, if_pos t3] at h
            cases h
            exact ⟨by omega, rfl⟩
          obtain ⟨rfl, rfl⟩ := HE.out
          have t4 : (n : Int) - 12 < (11 : Int) - 1 := by omega
          clear HE t1 t3
          go_wp2_with fail
          go_ret2
          exact ⟨rfl, 0, rfl⟩
        · have t4 : ¬ (n : Int) - 12 < (11 : Int) - 1 := by omega
          have hlen : n - 12 = 11 - 1 := by omega
          have HE : Hid (R1 = -1 ∧ R2 = if s = 1 then -(2 ^ (11 - 1) + bnum (xs.drop 12) 0) else 2 ^ (11 - 1) + bnum (xs.drop 12) 0) := by
            have h := HT.out
            unfold restS at h
            rw [hd.out, if_neg t1, if_neg t3] at h
            cases h
            exact ⟨rfl, rfl⟩
          have hPW := pow2_any (11 - 1)
          have HP : Hid (∀ q, Calls Try.prog 39 #[.int .i64 ((11 : Int) - 1)] q fun e w' => e = .returned (.int .i64 (2 ^ (11 - 1))) ∧ w' = q) := fun q => by
            have := pow2_any (11 - 1) q (by omega)
            rw [show (((11 - 1 : Nat)) : Int) = (11 : Int) - 1 by omega] at this
            exact this.mono fun _ _ ⟨a, b⟩ => ⟨a, b.symm⟩
          have hbn := num_bnum (xs.drop 12) (n - 12) (by rw [hd.out]; exact Nat.le_refl _)
          rw [List.take_of_length_le (by rw [hd.out]; exact Nat.le_refl _)] at hbn
          have hpb := num_bd (pad (xs.drop 12)) (pad_bit _ (fun j hj => by
            have := HB.out (12 + j) (by rw [hd.out] at hj; omega)
            rw [List.getD_eq_getElem?_getD] at this ⊢
            rw [List.getElem?_drop]
            exact this)) 0 (n - 12)
          have HBN : Hid (∀ j, Calls Try.prog 64 #[.slice (if cap = 12 then some ⟨bb, off, none⟩ else some ⟨bb, off + 12, none⟩) 10 (cap - 12)] (wr.drewN j) fun e w' => e = .returned (.int .i64 (bnum (xs.drop 12) 0)) ∧ w' = wr.drewN j) := fun j => by
            have hq : View .i64 (wr.drewN j) (if cap = 12 then some ⟨bb, off, none⟩ else some ⟨bb, off + 12, none⟩) (n - 12) (xs.drop 12) := by
              by_cases hc2 : cap = 12
              · exact ⟨hd.out, fun i hi => by have := HCP.out; omega⟩
              · rw [if_neg hc2]
                exact View.drop HV.out 12 hAn
            have := spec_bitsNum _ (n - 12) (cap - 12) (xs.drop 12) (wr.drewN j) (by omega) hq (fun j hj => by
              have := HB.out (12 + j) (by omega)
              rw [List.getD_eq_getElem?_getD] at this ⊢
              rw [List.getElem?_drop]
              exact this)
            rw [hbn, hlen] at this
            exact this.mono fun _ _ ⟨a, b⟩ => ⟨a, b.symm⟩
          have HVD := hid (View.drop HV.out 12 hAn)
          have hB2 := pow_le_2048' (11 - 1) (by omega)
          rw [hbn, hlen] at hpb
          generalize bnum (xs.drop 12) 0 = BN at *
          generalize (2 : Int) ^ (11 - 1) = PW at *
          clear hPW hbn t1 t3
          go_wp2_with fail
          go_quiet (first | (go_at_call 39; exact Calls.quiet_of_same (HP.out _)) | (go_at_call 64; exact Calls.quiet_of_same (HBN.out _)))
          rcases hs.out with rfl | rfl
          · obtain ⟨rfl, rfl⟩ : R1 = -1 ∧ R2 = PW + BN := ⟨HE.out.1, by have := HE.out.2; rw [if_neg (by decide)] at this; exact this⟩
            clear HE HT HBN HVD HP
            go_wp2_with fail
            all_goals
              go_ret2
              exact ⟨rfl, _, rfl⟩
          · obtain ⟨rfl, rfl⟩ : R1 = -1 ∧ R2 = -(PW + BN) := ⟨HE.out.1, by have := HE.out.2; rw [if_pos rfl] at this; exact this⟩
            clear HE HT HBN HVD HP
            go_wp2_with fail
            all_goals
              go_ret2
              exact ⟨rfl, _, rfl⟩

set_option maxRecDepth 100000 in
set_option maxHeartbeats 1600000 in
theorem spec_next (ao : Option Addr) (n cap : Nat) (xs : List Int) (w : World) (hn : n ≤ 1048576) (hcap : n ≤ cap) (hv : View .i64 w ao n xs) :
    Calls Try.prog 45 #[.slice ao n cap] w fun e w' => e = .returned (nxV xs) ∧ ∃ q, w' = w.drewN q := by
  by_cases hall : ∀ x ∈ xs, isBi x = true
  · have hbit : ∀ j, j < n → Bit (xs.getD j 0) := fun j hj => by
      have hj' : j < xs.length := by rw [hv.1]; exact hj
      rw [List.getD_eq_getElem?_getD, List.getElem?_eq_getElem hj']
      exact (isBi_iff _).1 (hall _ (List.getElem_mem hj'))
    have HY := hid (specBits_yes ao n cap xs w hn hv hbit)
    have HB := hid hbit
    have HV := hid hv
    have HL := hid hv.1
    cases xs with
    | nil =>
      obtain rfl : n = 0 := by rw [← hv.1]; rfl
      have HN : Hid (nxV [] = .tuple #[.int .i64 0, .int .i64 0]) := rfl
      rw [HN.out]
      clear hv hall hbit HB
      go_enter Try.func45, Try.ntmps45
      go_wp2_with fail
      refine HY.out.mono ?_
      rintro e w1 ⟨rfl, rfl⟩
      go_wp2_with fail
      go_ret2
      exact ⟨rfl, 0, rfl⟩
    | cons b0 l =>
      have h0n : 0 < n := by rw [← hv.1]; simp
      obtain ⟨bb, off, rfl, hc0⟩ := hv.2 0 h0n
      have hc0' : w.cell? ⟨bb, off, none⟩ = some (.int .i64 b0) := by simpa using hc0
      by_cases h1 : b0 = 1
      · subst h1
        cases l with
        | nil =>
          obtain rfl : n = 1 := by rw [← hv.1]; rfl
          have HN : Hid (nxV [1] = .tuple #[.int .i64 (-1), .int .i64 0]) := rfl
          rw [HN.out]
          clear hv hall hbit HB hc0
          go_enter Try.func45, Try.ntmps45
          go_wp2_with fail
          refine HY.out.mono ?_
          rintro e w1 ⟨rfl, rfl⟩
          go_wp2_with fail
          go_ret2
          exact ⟨rfl, 0, rfl⟩
        | cons b1 l =>
          have h1n : (1 : Int) < (n : Int) := by have := hv.1; simp only [List.length_cons] at this; omega
          have h0n' : ((n : Int) == 0) = false := by simp; omega
          have HN : Hid (nxV (1 :: b1 :: l) = .tuple #[.int .i64 (-2), .int .i64 0]) := by
            show _ = _
            unfold nxV nextS
            rw [if_pos hall]
            rfl
          rw [HN.out]
          clear hv hall hbit HB hc0 HL HV
          go_enter Try.func45, Try.ntmps45
          go_wp2_with fail
          refine HY.out.mono ?_
          rintro e w1 ⟨rfl, rfl⟩
          go_wp2_with fail
          go_ret2
          exact ⟨rfl, 0, rfl⟩
      · obtain rfl : b0 = 0 := by
          rcases (isBi_iff b0).1 (hall b0 (by simp)) with h | h
          · exact h
          · exact absurd h h1
        cases l with
        | nil =>
          obtain rfl : n = 1 := by rw [← hv.1]; rfl
          have HN : Hid (nxV [0] = .tuple #[.int .i64 1, .int .i64 0]) := rfl
          rw [HN.out]
          clear hv hall hbit HB hc0
          go_enter Try.func45, Try.ntmps45
          go_wp2_with fail
          refine HY.out.mono ?_
          rintro e w1 ⟨rfl, rfl⟩
          go_wp2_with fail
          go_ret2
          exact ⟨rfl, 0, rfl⟩
        | cons s l =>
          have HN : nxV (0 :: s :: l) = .tuple #[.int .i64 (sizeS s 10 1 l).1, .int .i64 (sizeS s 10 1 l).2] := by
            unfold nxV nextS
            rw [if_pos hall]
            rfl
          rw [HN]
          exact spec_next_long bb off n cap (0 :: s :: l) w hn hcap (by rw [← hv.1]; simp) (by simp) hv hbit
  · have hbit : ¬ ∀ j, j < n → Bit (xs.getD j 0) := fun h => hall (fun x hx => by
      obtain ⟨j, hj, rfl⟩ := List.getElem_of_mem hx
      have := h j (by rw [← hv.1]; exact hj)
      rw [List.getD_eq_getElem?_getD, List.getElem?_eq_getElem hj] at this
      exact (isBi_iff _).2 this)
    have HY := hid (specBits_no ao n cap xs w hn hv hbit)
    have HN : Hid (nxV xs = .tuple #[.int .i64 (-2), .int .i64 0]) := by
      show _ = _
      unfold nxV nextS
      rw [if_neg hall]
    rw [HN.out]
    clear hbit hall hv
    go_enter Try.func45, Try.ntmps45
    go_wp2_with fail
    refine HY.out.mono ?_
    rintro e w1 ⟨rfl, rfl⟩
    go_wp2_with fail
    go_ret2
    exact ⟨rfl, 0, rfl⟩
end Go.Proofs.Ytckpdmgmeolepaa
