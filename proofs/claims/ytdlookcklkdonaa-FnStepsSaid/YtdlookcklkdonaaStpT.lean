/- The contract of take, by which the program's reader takes a step. -/
import Derived.Test.YtdlookcklkdonaaStpK
namespace Go.Proofs.Ytdlookcklkdonaa
open Go.RowKit
set_option linter.unusedVariables false

/-- What take answers, and what the reader then is. -/
def TakeP (st : Option (List Int × Bool)) (b base : Nat) (w : World) (e : Ending) (w' : World) : Prop :=
  Below base w w' ∧ match st with
  | none => e = .returned (.bool false)
  | some (ac', sk') => e = .returned (.bool true) ∧ ∃ kd', RdA w' b base ac' kd' ∧ (kd' == 2) = sk'

theorem takeR_bad {ac : List Int} {sk : Bool} {r n : Int} {bits : List Int} (h : ¬ GoodRest n bits) : takeR (ac, sk) (r, n, bits) = none := by
  unfold takeR; rw [if_pos (.inl h)]
theorem takeR_full {ac : List Int} {sk : Bool} {r n : Int} {bits : List Int} (h : ac.length = 63) : takeR (ac, sk) (r, n, bits) = none := by
  unfold takeR; rw [if_pos (.inr h)]
theorem takeR_kind {ac : List Int} {sk : Bool} {r n : Int} {bits : List Int} (hg : GoodRest n bits) (hl : ac.length ≠ 63) : takeR (ac, sk) (r, n, bits) =
    (if kind r n = 1 then (if (ac.length : Int) + r < 63 then some (ac ++ List.replicate r.toNat 0 ++ [frv bits], false) else none)
     else if kind r n = 2 then (if ac.length + 16 < 63 then some (ac ++ List.replicate 16 0, true) else none)
     else if kind r n = 3 then (if sk = true then none else some (ac ++ List.replicate (63 - ac.length) 0, false)) else none) := by
  have hn := hg.1
  have hk : kind r n = if r < 0 ∨ 15 < r ∨ n < 0 ∨ 10 < n then 0 else if 0 < n then 1 else if r = 15 then 2 else if r = 0 then 3 else 0 := rfl
  generalize kind r n = K at *
  unfold takeR
  rw [if_neg (by rintro (e | e); exact e hg; exact hl e)]
  simp only
  by_cases h1 : r < 0 ∨ 15 < r ∨ 10 < n
  · rw [if_pos (show r < 0 ∨ 15 < r ∨ n < 0 ∨ 10 < n by omega)] at hk
    rw [if_pos h1, hk]
    rfl
  · rw [if_neg (show ¬ (r < 0 ∨ 15 < r ∨ n < 0 ∨ 10 < n) by omega)] at hk
    rw [if_neg h1]
    by_cases h2 : 0 < n
    · rw [if_pos h2] at hk
      rw [if_pos h2, hk]
      rfl
    · rw [if_neg h2] at hk
      rw [if_neg h2]
      by_cases h3 : r = 15
      · rw [if_pos h3] at hk
        rw [if_pos h3, hk]
        rfl
      · rw [if_neg h3] at hk
        rw [if_neg h3]
        by_cases h4 : r = 0
        · rw [if_pos h4] at hk
          rw [if_pos h4, hk]
          rfl
        · rw [if_neg h4] at hk
          rw [if_neg h4, hk]
          rfl
theorem kind_in (r n : Int) : kind r n = 0 ∨ kind r n = 1 ∨ kind r n = 2 ∨ kind r n = 3 := by
  unfold kind
  split
  · exact .inl rfl
  · split
    · exact .inr (.inl rfl)
    · split
      · exact .inr (.inr (.inl rfl))
      · split
        · exact .inr (.inr (.inr rfl))
        · exact .inl rfl
theorem kind_one {r n : Int} (h : kind r n = 1) : 0 ≤ r ∧ r ≤ 15 := by
  unfold kind at h
  split at h
  · cases h
  · omega

set_option maxRecDepth 100000 in
set_option maxHeartbeats 3200000 in
theorem take_any (b base : Nat) (ac : List Int) (kd r n : Int) (bo : Option Addr) (bc : Nat) (bits : List Int) (w : World) (hl : ac.length ≤ 63) (hbl : bits.length ≤ 1048576) (hrd : RdA w b base ac kd) (hv : View .i64 w bo bits.length bits) :
    Calls Try.prog 43 #[.pointer (some ⟨b, 0, none⟩), .agg #[.int .i64 r, .int .i64 n, .slice bo bits.length bc]] w (TakeP (takeR (ac, kd == 2) (r, n, bits)) b base w) := by
  have hb0 := hrd.1
  have hbs : base ≤ w.heap.size := by obtain ⟨_, v, _, h2⟩ := hrd; exact h2.1
  have HB := hid ((Below.refl w.heap.size w).alloc (Nat.le_refl _) (.cells #[.int .i64 r, .int .i64 n, .slice bo bits.length bc] 65))
  have H3 := hid (show (w.alloc (.cells #[.int .i64 r, .int .i64 n, .slice bo bits.length bc] 65)).heap[w.heap.size]? = some (.cells #[.int .i64 r, .int .i64 n, .slice bo bits.length bc] 65 (0, 0)) from heap_alloc_new w _)
  have HRD := hid (hrd.below HB.out)
  have HV := hid (hv.below (Nat.le_refl _) HB.out)
  have hsz : w.heap.size < (w.alloc (.cells #[.int .i64 r, .int .i64 n, .slice bo bits.length bc] 65)).heap.size := by simp
  clear hrd hv
  by_cases hg : GoodRest n bits
  · have hnl : n = (bits.length : Int) := hg.2.1.symm
    subst hnl
    have HFR := hid (impl_from bo bc bits _ (by have := hg.1; omega) HV.out hg.2.2)
    have HK := hid (fun q => kindOf_any r (bits.length : Int) bo bits.length bc q)
    have HTK := hid (fun hne => takeR_kind (ac := ac) (sk := kd == 2) (r := r) hg hne)
    have HTF := hid (fun hne => takeR_full (ac := ac) (sk := kd == 2) (r := r) (n := (bits.length : Int)) (bits := bits) hne)
    have HK1 := hid (fun h => kind_one (r := r) (n := (bits.length : Int)) h)
    have hkin := kind_in r (bits.length : Int)
    clear hg
    generalize takeR (ac, kd == 2) (r, (bits.length : Int), bits) = R at *
    generalize kind r (bits.length : Int) = K at *
    generalize frv bits = X at *
    go_enter Try.func43, Try.ntmps43
    go_wp2_with fail
    refine HFR.out.mono ?_
    generalize w.alloc (.cells #[.int .i64 r, .int .i64 (bits.length : Int), .slice bo bits.length bc] 65) = wa at *
    rintro e w1 ⟨rfl, hb1⟩
    have B1 := hid (HB.out.trans (hb1.mono HB.out.size))
    have R1 := hid (HRD.out.below hb1)
    have S1 : w1.heap[w.heap.size]? = some (.cells #[.int .i64 r, .int .i64 (bits.length : Int), .slice bo bits.length bc] 65 (0, 0)) := (hb1.block _ hsz).trans H3.out
    have c0 : w1.cell? ⟨w.heap.size, 0, none⟩ = some (.int .i64 r) := by simp [World.cell?, S1]
    have c1 : w1.cell? ⟨w.heap.size, 1, none⟩ = some (.int .i64 (bits.length : Int)) := by simp [World.cell?, S1]
    have c2 : w1.cell? ⟨w.heap.size, 2, none⟩ = some (.slice bo bits.length bc) := by simp [World.cell?, S1]
    have hs1 : w.heap.size < w1.heap.size := (Array.getElem?_eq_some_iff.1 S1).1
    have HS1 := hid S1
    clear hb1 HFR S1
    by_cases hfull : ac.length = 63
    · have hR := HTF.out hfull
      have hdf : decide (ac.length = 63) = true := by simpa using hfull
      have HW := hid (whole_any b base ac kd w1 (by omega) R1.out)
      rw [hdf] at HW
      subst hR
      go_wp2_with fail
      refine HW.out.mono ?_
      rintro e w2 ⟨rfl, rfl⟩
      go_wp2_with fail
      go_ret
      exact ⟨B1.out.mono hbs, rfl⟩
    · have hR := HTK.out hfull
      have hdf : decide (ac.length = 63) = false := by simpa using hfull
      have HW := hid (whole_any b base ac kd w1 (by omega) R1.out)
      rw [hdf] at HW
      have HR := hid hR
      clear hR HTK HTF
      go_wp2_with fail
      refine HW.out.mono ?_
      rintro e w2 ⟨rfl, rfl⟩
      go_wp2_with fail
      refine (HK.out _).mono ?_
      rintro e w2 ⟨rfl, hb2⟩
      have B2 := hid (B1.out.trans (hb2.mono B1.out.size))
      have R2 := hid (R1.out.below hb2)
      have d0 : w2.cell? ⟨w.heap.size, 0, none⟩ = some (.int .i64 r) := (hb2.cell (p := ⟨w.heap.size, 0, none⟩) hs1).trans c0
      clear hb2 c0 c1 c2 HS1 R1 HW
      rcases hkin with rfl | rfl | rfl | rfl
      · have hR0 : R = none := by rw [HR.out]; simp
        subst hR0
        go_wp2_with fail
        go_ret
        exact ⟨B2.out.mono hbs, rfl⟩
      · obtain ⟨hr0, hr1⟩ := HK1.out rfl
        obtain ⟨q, rfl⟩ : ∃ q : Nat, r = q := ⟨r.toNat, by omega⟩
        have HRM := hid (hasRoom_any b base ac kd (q : Int) w2 (by omega) (by omega) R2.out)
        by_cases hroom : (ac.length : Int) + (q : Int) < 63
        · have hd : decide ((ac.length : Int) + (q : Int) < 63) = true := by simpa using hroom
          rw [hd] at HRM
          have hR0 : R = some (ac ++ List.replicate q 0 ++ [X], false) := by rw [HR.out]; simp [hroom]
          subst hR0
          go_wp2_with fail
          refine HRM.out.mono ?_
          rintro e w3 ⟨rfl, rfl⟩
          go_wp2_with fail
          refine (zeros_any b base ac kd q w2 (by omega) (by omega) R2.out).mono ?_
          rintro e w3 ⟨rfl, ⟨_, v3, t3, o3⟩, hb3⟩
          have B3 := hid ((B2.out.mono hbs).trans hb3)
          have hL : (ac ++ List.replicate q (0 : Int)).length < 1000000 := by simp; omega
          generalize ac ++ List.replicate q (0 : Int) = A at *
          obtain ⟨vo, vc, rfl⟩ := o3.shape
          obtain ⟨q1, q2, q3, q4⟩ := t3.cells
          have H1 := hid t3
          have H2 := hid o3
          clear t3 o3 hb3 R2
          go_wp2_with (at_builtin; refine wpList_pushT _ rfl _ _ 26 rfl base 3 .i64 0 8 Try.underlying26 Try.info3 _ A rfl H2.out X rfl (by omega) (by decide) ?_)
          intro v9 w9 ho9 hb9 hk9
          have T9 := hid (show Two w9 b (.slice vo A.length vc) (.int .i64 kd) 69 from hk9 b _ 69 (by decide) H1.out)
          obtain ⟨s9, c9, hv9⟩ := ho9.shape
          rw [List.length_append, List.length_singleton] at hv9
          subst hv9
          have HO9 := hid (ho9.setTwo (i := 0) T9.out (by decide) (.slice s9 (A.length + 1) c9))
          have HT9 := hid (T9.out.set0 (.slice s9 (A.length + 1) c9))
          have HB9 := hid ((B3.out.trans hb9).setCell (p := ⟨b, 0, none⟩) hb0 (.slice s9 (A.length + 1) c9))
          obtain ⟨p1, p2, p3, p4⟩ := T9.out.cells
          obtain ⟨m1, m2, m3, m4⟩ := HT9.out.cells
          have HO10 := hid (HO9.out.setTwo (i := 1) HT9.out (by decide) (.int .i64 1))
          have HT10 := hid (HT9.out.set1 (.int .i64 1))
          have HB10 := hid (HB9.out.setCell (p := ⟨b, 1, none⟩) hb0 (.int .i64 1))
          clear ho9 hb9 hk9 q1 q2 q3 q4
          go_wp2_with fail
          go_ret
          exact ⟨HB10.out, rfl, 1, ⟨hb0, _, HT10.out, HO10.out⟩, rfl⟩
        · have hd : decide ((ac.length : Int) + (q : Int) < 63) = false := by simpa using hroom
          rw [hd] at HRM
          have hR0 : R = none := by rw [HR.out]; simp [hroom]
          subst hR0
          go_wp2_with fail
          refine HRM.out.mono ?_
          rintro e w3 ⟨rfl, rfl⟩
          go_wp2_with fail
          go_ret
          exact ⟨B2.out.mono hbs, rfl⟩
      · have HRM := hid (hasRoom_any b base ac kd 16 w2 (by omega) (by omega) R2.out)
        by_cases hroom : ac.length + 16 < 63
        · have hd : decide ((ac.length : Int) + 16 < 63) = true := by simp; omega
          rw [hd] at HRM
          have hR0 : R = some (ac ++ List.replicate 16 0, true) := by rw [HR.out]; simp [hroom]
          subst hR0
          go_wp2_with fail
          refine HRM.out.mono ?_
          rintro e w3 ⟨rfl, rfl⟩
          go_wp2_with fail
          refine (zeros_any b base ac kd 16 w2 (by omega) (by omega) R2.out).mono ?_
          rintro e w3 ⟨rfl, ⟨_, v3, t3, o3⟩, hb3⟩
          have B3 := hid ((B2.out.mono hbs).trans hb3)
          generalize ac ++ List.replicate 16 (0 : Int) = A at *
          obtain ⟨vo, vc, rfl⟩ := o3.shape
          obtain ⟨q1, q2, q3, q4⟩ := t3.cells
          have HO10 := hid (o3.setTwo (i := 1) t3 (by decide) (.int .i64 2))
          have HT10 := hid (t3.set1 (.int .i64 2))
          have HB10 := hid (B3.out.setCell (p := ⟨b, 1, none⟩) hb0 (.int .i64 2))
          clear t3 o3 hb3 R2
          go_wp2_with fail
          go_ret
          exact ⟨HB10.out, rfl, 2, ⟨hb0, _, HT10.out, HO10.out⟩, rfl⟩
        · have hd : decide ((ac.length : Int) + 16 < 63) = false := by simp; omega
          rw [hd] at HRM
          have hR0 : R = none := by rw [HR.out]; simp [hroom]
          subst hR0
          go_wp2_with fail
          refine HRM.out.mono ?_
          rintro e w3 ⟨rfl, rfl⟩
          go_wp2_with fail
          go_ret
          exact ⟨B2.out.mono hbs, rfl⟩
      · obtain ⟨_, v2, t2, o2⟩ := R2.out
        obtain ⟨vo, vc, rfl⟩ := o2.shape
        obtain ⟨q1, q2, q3, q4⟩ := t2.cells
        clear t2 o2
        by_cases hkd : kd = 2
        · have hR0 : R = none := by rw [HR.out]; simp [hkd]
          subst hR0
          have hd : (kd == 2) = true := by simpa using hkd
          clear hkd
          go_wp2_with fail
          go_ret
          exact ⟨B2.out.mono hbs, rfl⟩
        · have hR0 : R = some (ac ++ List.replicate (63 - ac.length) 0, false) := by rw [HR.out]; simp [hkd]
          subst hR0
          have hd : (kd == 2) = false := by simpa using hkd
          have hz : (63 : Int) - (ac.length : Int) = ((63 - ac.length : Nat) : Int) := by omega
          have HZ := hid (zeros_any b base ac kd (63 - ac.length) w2 (by omega) (by omega) R2.out)
          rw [← hz] at HZ
          clear hkd hz
          go_wp2_with fail
          refine HZ.out.mono ?_
          rintro e w3 ⟨rfl, ⟨_, v3, t3, o3⟩, hb3⟩
          have B3 := hid ((B2.out.mono hbs).trans hb3)
          generalize ac ++ List.replicate (63 - ac.length) (0 : Int) = A at *
          obtain ⟨vo', vc', rfl⟩ := o3.shape
          obtain ⟨p1, p2, p3, p4⟩ := t3.cells
          have HO10 := hid (o3.setTwo (i := 1) t3 (by decide) (.int .i64 3))
          have HT10 := hid (t3.set1 (.int .i64 3))
          have HB10 := hid (B3.out.setCell (p := ⟨b, 1, none⟩) hb0 (.int .i64 3))
          clear t3 o3 hb3 R2 q1 q2 q3 q4
          go_wp2_with fail
          go_ret
          exact ⟨HB10.out, rfl, 3, ⟨hb0, _, HT10.out, HO10.out⟩, rfl⟩
  · have hR := takeR_bad (ac := ac) (sk := kd == 2) (r := r) hg
    have HFR := hid (impl_from_no bo bc n bits _ hbl HV.out hg)
    rw [hR]
    clear hg hR
    go_enter Try.func43, Try.ntmps43
    go_wp2_with fail
    refine HFR.out.mono ?_
    generalize w.alloc (.cells #[.int .i64 r, .int .i64 n, .slice bo bits.length bc] 65) = wa at *
    rintro e w1 ⟨rfl, hb1⟩
    have B1 := hid (HB.out.trans (hb1.mono HB.out.size))
    clear hb1
    go_wp2_with fail
    go_ret
    exact ⟨B1.out.mono hbs, rfl⟩
end Go.Proofs.Ytdlookcklkdonaa
