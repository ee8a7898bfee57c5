/- Texts joined: StpK, StpT, StpF. No statement is proved here. -/
import Derived.Test.YtcikmgdfelejpaaJGd
import Derived.Test.YtcikmgdfelejpaaJGc

/- Contracts of the small methods of the program's reader of steps. -/
namespace Go.Proofs.Ytcikmgdfelejpaa
open Go.RowKit
set_option linter.unusedVariables false

/-- Which kind of step it is. -/
def kind (r n : Int) : Int := if r < 0 ∨ 15 < r ∨ n < 0 ∨ 10 < n then 0 else if 0 < n then 1 else if r = 15 then 2 else if r = 0 then 3 else 0

set_option maxHeartbeats 1600000 in
theorem kindOf_any (r n : Int) (ao : Option Addr) (l c : Nat) (w : World) : Calls Try.prog 104 #[.agg #[.int .i64 r, .int .i64 n, .slice ao l c]] w fun e w' => e = .returned (.int .i64 (kind r n)) ∧ Below w.heap.size w w' := by
  have HB := hid ((Below.refl w.heap.size w).alloc (Nat.le_refl _) (.cells #[.int .i64 r, .int .i64 n, .slice ao l c] 73))
  have HK := hid (show kind r n = if r < 0 ∨ 15 < r ∨ n < 0 ∨ 10 < n then 0 else if 0 < n then 1 else if r = 15 then 2 else if r = 0 then 3 else 0 from rfl)
  generalize kind r n = K at *
  by_cases h1 : r < 0
  · rw [if_pos (.inl h1)] at HK
    go_enter Try.func104, Try.ntmps104
    go_wp2_with fail
    go_ret
    exact ⟨ret_int HK.out.symm, HB.out⟩
  · by_cases h2 : 15 < r
    · rw [if_pos (.inr (.inl h2))] at HK
      go_enter Try.func104, Try.ntmps104
      go_wp2_with fail
      go_ret
      exact ⟨ret_int HK.out.symm, HB.out⟩
    · by_cases h3 : n < 0
      · rw [if_pos (.inr (.inr (.inl h3)))] at HK
        go_enter Try.func104, Try.ntmps104
        go_wp2_with fail
        go_ret
        exact ⟨ret_int HK.out.symm, HB.out⟩
      · by_cases h4 : 10 < n
        · rw [if_pos (.inr (.inr (.inr h4)))] at HK
          go_enter Try.func104, Try.ntmps104
          go_wp2_with fail
          go_ret
          exact ⟨ret_int HK.out.symm, HB.out⟩
        · rw [if_neg (by omega)] at HK
          by_cases h5 : 0 < n
          · rw [if_pos h5] at HK
            go_enter Try.func104, Try.ntmps104
            go_wp2_with fail
            go_ret
            exact ⟨ret_int HK.out.symm, HB.out⟩
          · rw [if_neg h5] at HK
            by_cases h6 : r = 15
            · rw [if_pos h6] at HK
              subst h6
              go_enter Try.func104, Try.ntmps104
              go_wp2_with fail
              go_ret
              exact ⟨ret_int HK.out.symm, HB.out⟩
            · rw [if_neg h6] at HK
              have h6' : (r == 15) = false := by simpa using h6
              by_cases h7 : r = 0
              · rw [if_pos h7] at HK
                subst h7
                go_enter Try.func104, Try.ntmps104
                go_wp2_with fail
                go_ret
                exact ⟨ret_int HK.out.symm, HB.out⟩
              · rw [if_neg h7] at HK
                have h7' : (r == 0) = false := by simpa using h7
                go_enter Try.func104, Try.ntmps104
                go_wp2_with fail
                go_ret
                exact ⟨ret_int HK.out.symm, HB.out⟩

/-- The reader in block b: its numbers, a slice of its own, and the kind of the last step. -/
def RdA (w : World) (b base : Nat) (ac : List Int) (kd : Int) : Prop := base ≤ b ∧ ∃ v, Two w b v (.int .i64 kd) 123 ∧ Own w base 3 .i64 v ac
theorem RdA.below {w w' : World} {b base : Nat} {ac : List Int} {kd : Int} (h : RdA w b base ac kd) (hb : Below w.heap.size w w') : RdA w' b base ac kd := by
  obtain ⟨h0, v, h1, h2⟩ := h
  exact ⟨h0, v, h1.below hb h1.lt, h2.below hb⟩
/-- A store into a block of another type leaves own numbers alone. -/
theorem Own.setTwo {w : World} {base b i : Nat} {v x y : Value} {t : TypeId} {xs : List Int} (h : Own w base 3 .i64 v xs) (ht : Two w b x y t) (hne : t ≠ 3) (u : Value) : Own (w.setCell ⟨b, i, none⟩ u) base 3 .i64 v xs := by
  refine ⟨by simpa using h.1, h.2.1, ?_⟩
  rcases h.2.2 with h0 | ⟨g, cap, cur, hv, hg, hh, r⟩
  · exact .inl h0
  · refine .inr ⟨g, cap, cur, hv, hg, ?_, r⟩
    rw [heap_setCell_other _ ⟨b, i, none⟩ g _ (fun e => by
      have e' : g = b := e
      subst e'
      unfold Two at ht
      rw [hh] at ht
      cases ht
      exact hne rfl)]
    exact hh

set_option maxHeartbeats 800000 in
theorem whole_any (b base : Nat) (ac : List Int) (kd : Int) (w : World) (hl : ac.length ≤ 1000) (h : RdA w b base ac kd) : Calls Try.prog 85 #[.pointer (some ⟨b, 0, none⟩)] w fun e w' => e = .returned (.bool (decide (ac.length = 63))) ∧ w = w' := by
  obtain ⟨h0, v, h1, h2⟩ := h
  obtain ⟨vo, vc, rfl⟩ := h2.shape
  obtain ⟨q1, q2, q3, q4⟩ := h1.cells
  have hd : ((ac.length : Int) == 63) = decide (ac.length = 63) := by
    by_cases e : ac.length = 63
    · simp [e]
    · simp [e]; omega
  clear h1 h2
  go_enter Try.func85, Try.ntmps85
  go_wp2_with fail
  go_ret
  exact ⟨rfl, rfl⟩

set_option maxHeartbeats 800000 in
theorem hasRoom_any (b base : Nat) (ac : List Int) (kd r : Int) (w : World) (hl : ac.length ≤ 1000) (hr : 0 ≤ r ∧ r ≤ 1000) (h : RdA w b base ac kd) : Calls Try.prog 105 #[.pointer (some ⟨b, 0, none⟩), .int .i64 r] w fun e w' => e = .returned (.bool (decide ((ac.length : Int) + r < 63))) ∧ w = w' := by
  obtain ⟨h0, v, h1, h2⟩ := h
  obtain ⟨vo, vc, rfl⟩ := h2.shape
  obtain ⟨q1, q2, q3, q4⟩ := h1.cells
  clear h1 h2
  go_enter Try.func105, Try.ntmps105
  go_wp2_with fail
  go_ret
  exact ⟨rfl, rfl⟩

set_option maxHeartbeats 1600000 in
theorem zeros_any (b base : Nat) (ac : List Int) (kd : Int) (n : Nat) (w : World) (hl : ac.length ≤ 1000) (hn : n ≤ 1000) (h : RdA w b base ac kd) : Calls Try.prog 106 #[.pointer (some ⟨b, 0, none⟩), .int .i64 n] w fun e w' => e = .returned (.tuple #[]) ∧ RdA w' b base (ac ++ List.replicate n 0) kd ∧ Below base w w' := by
  have HR := hid h
  have hb0 := h.1
  clear h
  go_enter Try.func106, Try.ntmps106
  go_wp2_with fail
  go_loopw [5] (fun i wr => ∃ k : Nat, k ≤ n ∧ i = .int .i64 k ∧ Hid (RdA wr b base (ac ++ List.replicate k 0) kd) ∧ Hid (Below base w wr)) (fun i _ => n - (intOf i).toNat)
  case atStart => exact ⟨0, by omega, rfl, by show RdA _ _ _ _ _; simpa using HR.out, Below.refl _ _⟩
  case round =>
    obtain ⟨k, hk, rfl, hrd, hb⟩ := hrel
    by_cases hlt : k < n
    · have hlt' : (k : Int) < (n : Int) := by omega
      obtain ⟨_, v, h1, h2⟩ := hrd.out
      obtain ⟨q1, q2, q3, q4⟩ := h1.cells
      have H1 := hid h1
      have H2 := hid h2
      have hL : (ac ++ List.replicate k (0 : Int)).length < 1000000 := by simp; omega
      have HE := hid (show ac ++ List.replicate (k + 1) (0 : Int) = (ac ++ List.replicate k 0) ++ [0] by rw [List.replicate_succ', List.append_assoc])
      generalize ac ++ List.replicate k (0 : Int) = A at *
      obtain ⟨vo, vc, rfl⟩ := h2.shape
      clear h1 h2
      go_wp2_with (at_builtin; refine wpList_pushT _ rfl _ _ 22 rfl base 3 .i64 0 8 Try.underlying22 Try.info3 _ A rfl H2.out 0 rfl (by omega) (by decide) ?_)
      intro v9 w9 ho9 hb9 hk9
      have T9 := hid (show Two w9 b (.slice vo A.length vc) (.int .i64 kd) 123 from hk9 b _ 123 (by decide) H1.out)
      obtain ⟨s9, c9, hv9⟩ := ho9.shape
      rw [List.length_append, List.length_singleton] at hv9
      subst hv9
      obtain ⟨p1, p2, p3, p4⟩ := T9.out.cells
      have HO9 := hid (ho9.setTwo (i := 0) T9.out (by decide) (.slice s9 (A.length + 1) c9))
      have HT9 := hid (T9.out.set0 (.slice s9 (A.length + 1) c9))
      have HB9 := hid ((hb.out.trans hb9).setCell (p := ⟨b, 0, none⟩) hb0 (.slice s9 (A.length + 1) c9))
      clear ho9 hb9 hk9 q1 q2 q3 q4
      go_wp2_with fail
      go_roundw
      case rel => exact ⟨k + 1, by omega, by go_num, by rw [HE.out]; exact ⟨hb0, _, HT9.out, HO9.out⟩, HB9.out⟩
      case measure => simp [intOf]; omega
    · obtain rfl : k = n := by omega
      go_wp2_with fail
      go_end0
      exact ⟨rfl, hrd.out, hb.out⟩
end Go.Proofs.Ytcikmgdfelejpaa

/- The contract of take, by which the program's reader takes a step. -/
namespace Go.Proofs.Ytcikmgdfelejpaa
open Go.RowKit
set_option linter.unusedVariables false

/-- What take answers, and what the reader then is. -/
def TakeP (st : Option (List Int × Bool)) (b base : Nat) (w : World) (e : Ending) (w' : World) : Prop :=
  Below base w w' ∧ match st with
  | none => e = .returned (.bool false)
  | some (ac', sk') => e = .returned (.bool true) ∧ ∃ kd', RdA w' b base ac' kd' ∧ (kd' == 2) = sk'

theorem takeR_bad {ac : List Int} {sk : Bool} {r n : Int} {bits : List Int} (h : ¬ GoodRest n bits) : takeR (ac, sk) (r, n, bits) = none := by
  unfold takeR; rw [if_pos (.inl h)]
theorem takeR_full {ac : List Int} {sk : Bool} {r n : Int} {bits : List Int} (h : ac.length = 63) : takeR (ac, sk) (r, n, bits) = none := by
  unfold takeR; rw [if_pos (.inr h)]
theorem takeR_kind {ac : List Int} {sk : Bool} {r n : Int} {bits : List Int} (hg : GoodRest n bits) (hl : ac.length ≠ 63) : takeR (ac, sk) (r, n, bits) =
    (if kind r n = 1 then (if (ac.length : Int) + r < 63 then some (ac ++ List.replicate r.toNat 0 ++ [frv bits], false) else none)
     else if kind r n = 2 then (if ac.length + 16 < 63 then some (ac ++ List.replicate 16 0, true) else none)
     else if kind r n = 3 then (if sk = true then none else some (ac ++ List.replicate (63 - ac.length) 0, false)) else none) := by
  have hn := hg.1
  have hk : kind r n = if r < 0 ∨ 15 < r ∨ n < 0 ∨ 10 < n then 0 else if 0 < n then 1 else if r = 15 then 2 else if r = 0 then 3 else 0 := rfl
  generalize kind r n = K at *
  unfold takeR
  rw [if_neg (by rintro (e | e); exact e hg; exact hl e)]
  simp only
  by_cases h1 : r < 0 ∨ 15 < r ∨ 10 < n
  · rw [if_pos (show r < 0 ∨ 15 < r ∨ n < 0 ∨ 10 < n by omega)] at hk
    rw [if_pos h1, hk]
    rfl
  · rw [if_neg (show ¬ (r < 0 ∨ 15 < r ∨ n < 0 ∨ 10 < n) by omega)] at hk
    rw [if_neg h1]
    by_cases h2 : 0 < n
    · rw [if_pos h2] at hk
      rw [if_pos h2, hk]
      rfl
    · rw [if_neg h2] at hk
      rw [if_neg h2]
      by_cases h3 : r = 15
      · rw [if_pos h3] at hk
        rw [if_pos h3, hk]
        rfl
      · rw [if_neg h3] at hk
        rw [if_neg h3]
        by_cases h4 : r = 0
        · rw [if_pos h4] at hk
          rw [if_pos h4, hk]
          rfl
        · rw [if_neg h4] at hk
          rw [if_neg h4, hk]
          rfl
theorem kind_in (r n : Int) : kind r n = 0 ∨ kind r n = 1 ∨ kind r n = 2 ∨ kind r n = 3 := by
  unfold kind
  split
  · exact .inl rfl
  · split
    · exact .inr (.inl rfl)
    · split
      · exact .inr (.inr (.inl rfl))
      · split
        · exact .inr (.inr (.inr rfl))
        · exact .inl rfl
theorem kind_one {r n : Int} (h : kind r n = 1) : 0 ≤ r ∧ r ≤ 15 := by
  unfold kind at h
  split at h
  · cases h
  · omega

set_option maxRecDepth 100000 in
set_option maxHeartbeats 3200000 in
theorem take_any (b base : Nat) (ac : List Int) (kd r n : Int) (bo : Option Addr) (bc : Nat) (bits : List Int) (w : World) (hl : ac.length ≤ 63) (hbl : bits.length ≤ 1048576) (hrd : RdA w b base ac kd) (hv : View .i64 w bo bits.length bits) :
    Calls Try.prog 87 #[.pointer (some ⟨b, 0, none⟩), .agg #[.int .i64 r, .int .i64 n, .slice bo bits.length bc]] w (TakeP (takeR (ac, kd == 2) (r, n, bits)) b base w) := by
  have hb0 := hrd.1
  have hbs : base ≤ w.heap.size := by obtain ⟨_, v, _, h2⟩ := hrd; exact h2.1
  have HB := hid ((Below.refl w.heap.size w).alloc (Nat.le_refl _) (.cells #[.int .i64 r, .int .i64 n, .slice bo bits.length bc] 73))
  have H3 := hid (show (w.alloc (.cells #[.int .i64 r, .int .i64 n, .slice bo bits.length bc] 73)).heap[w.heap.size]? = some (.cells #[.int .i64 r, .int .i64 n, .slice bo bits.length bc] 73 (0, 0)) from heap_alloc_new w _)
  have HRD := hid (hrd.below HB.out)
  have HV := hid (hv.below (Nat.le_refl _) HB.out)
  have hsz : w.heap.size < (w.alloc (.cells #[.int .i64 r, .int .i64 n, .slice bo bits.length bc] 73)).heap.size := by simp
  clear hrd hv
  by_cases hg : GoodRest n bits
  · have hnl : n = (bits.length : Int) := hg.2.1.symm
    subst hnl
    have HFR := hid (impl_from bo bc bits _ (by have := hg.1; omega) HV.out hg.2.2)
    have HK := hid (fun q => kindOf_any r (bits.length : Int) bo bits.length bc q)
    have HTK := hid (fun hne => takeR_kind (ac := ac) (sk := kd == 2) (r := r) hg hne)
    have HTF := hid (fun hne => takeR_full (ac := ac) (sk := kd == 2) (r := r) (n := (bits.length : Int)) (bits := bits) hne)
    have HK1 := hid (fun h => kind_one (r := r) (n := (bits.length : Int)) h)
    have hkin := kind_in r (bits.length : Int)
    clear hg
    generalize takeR (ac, kd == 2) (r, (bits.length : Int), bits) = R at *
    generalize kind r (bits.length : Int) = K at *
    generalize frv bits = X at *
    go_enter Try.func87, Try.ntmps87
    go_wp2_with fail
    refine HFR.out.mono ?_
    generalize w.alloc (.cells #[.int .i64 r, .int .i64 (bits.length : Int), .slice bo bits.length bc] 73) = wa at *
    rintro e w1 ⟨rfl, hb1⟩
    have B1 := hid (HB.out.trans (hb1.mono HB.out.size))
    have R1 := hid (HRD.out.below hb1)
    have S1 : w1.heap[w.heap.size]? = some (.cells #[.int .i64 r, .int .i64 (bits.length : Int), .slice bo bits.length bc] 73 (0, 0)) := (hb1.block _ hsz).trans H3.out
    have c0 : w1.cell? ⟨w.heap.size, 0, none⟩ = some (.int .i64 r) := by simp [World.cell?, S1]
    have c1 : w1.cell? ⟨w.heap.size, 1, none⟩ = some (.int .i64 (bits.length : Int)) := by simp [World.cell?, S1]
    have c2 : w1.cell? ⟨w.heap.size, 2, none⟩ = some (.slice bo bits.length bc) := by simp [World.cell?, S1]
    have hs1 : w.heap.size < w1.heap.size := (Array.getElem?_eq_some_iff.1 S1).1
    have HS1 := hid S1
    clear hb1 HFR S1
    by_cases hfull : ac.length = 63
    · have hR := HTF.out hfull
      have hdf : decide (ac.length = 63) = true := by simpa using hfull
      have HW := hid (whole_any b base ac kd w1 (by omega) R1.out)
      rw [hdf] at HW
      subst hR
      go_wp2_with fail
      refine HW.out.mono ?_
      rintro e w2 ⟨rfl, rfl⟩
      go_wp2_with fail
      go_ret
      exact ⟨B1.out.mono hbs, rfl⟩
    · have hR := HTK.out hfull
      have hdf : decide (ac.length = 63) = false := by simpa using hfull
      have HW := hid (whole_any b base ac kd w1 (by omega) R1.out)
      rw [hdf] at HW
      have HR := hid hR
      clear hR HTK HTF
      go_wp2_with fail
      refine HW.out.mono ?_
      rintro e w2 ⟨rfl, rfl⟩
      go_wp2_with fail
      refine (HK.out _).mono ?_
      rintro e w2 ⟨rfl, hb2⟩
      have B2 := hid (B1.out.trans (hb2.mono B1.out.size))
      have R2 := hid (R1.out.below hb2)
      have d0 : w2.cell? ⟨w.heap.size, 0, none⟩ = some (.int .i64 r) := (hb2.cell (p := ⟨w.heap.size, 0, none⟩) hs1).trans c0
      clear hb2 c0 c1 c2 HS1 R1 HW
      rcases hkin with rfl | rfl | rfl | rfl
      · have hR0 : R = none := by rw [HR.out]; simp
        subst hR0
        go_wp2_with fail
        go_ret
        exact ⟨B2.out.mono hbs, rfl⟩
      · obtain ⟨hr0, hr1⟩ := HK1.out rfl
        obtain ⟨q, rfl⟩ : ∃ q : Nat, r = q := ⟨r.toNat, by omega⟩
        have HRM := hid (hasRoom_any b base ac kd (q : Int) w2 (by omega) (by omega) R2.out)
        by_cases hroom : (ac.length : Int) + (q : Int) < 63
        · have hd : decide ((ac.length : Int) + (q : Int) < 63) = true := by simpa using hroom
          rw [hd] at HRM
          have hR0 : R = some (ac ++ List.replicate q 0 ++ [X], false) := by rw [HR.out]; simp [hroom]
          subst hR0
          go_wp2_with fail
          refine HRM.out.mono ?_
          rintro e w3 ⟨rfl, rfl⟩
          go_wp2_with fail
          refine (zeros_any b base ac kd q w2 (by omega) (by omega) R2.out).mono ?_
          rintro e w3 ⟨rfl, ⟨_, v3, t3, o3⟩, hb3⟩
          have B3 := hid ((B2.out.mono hbs).trans hb3)
          have hL : (ac ++ List.replicate q (0 : Int)).length < 1000000 := by simp; omega
          generalize ac ++ List.replicate q (0 : Int) = A at *
          obtain ⟨vo, vc, rfl⟩ := o3.shape
          obtain ⟨q1, q2, q3, q4⟩ := t3.cells
          have H1 := hid t3
          have H2 := hid o3
          clear t3 o3 hb3 R2
          go_wp2_with (at_builtin; refine wpList_pushT _ rfl _ _ 22 rfl base 3 .i64 0 8 Try.underlying22 Try.info3 _ A rfl H2.out X rfl (by omega) (by decide) ?_)
          intro v9 w9 ho9 hb9 hk9
          have T9 := hid (show Two w9 b (.slice vo A.length vc) (.int .i64 kd) 123 from hk9 b _ 123 (by decide) H1.out)
          obtain ⟨s9, c9, hv9⟩ := ho9.shape
          rw [List.length_append, List.length_singleton] at hv9
          subst hv9
          have HO9 := hid (ho9.setTwo (i := 0) T9.out (by decide) (.slice s9 (A.length + 1) c9))
          have HT9 := hid (T9.out.set0 (.slice s9 (A.length + 1) c9))
          have HB9 := hid ((B3.out.trans hb9).setCell (p := ⟨b, 0, none⟩) hb0 (.slice s9 (A.length + 1) c9))
          obtain ⟨p1, p2, p3, p4⟩ := T9.out.cells
          obtain ⟨m1, m2, m3, m4⟩ := HT9.out.cells
          have HO10 := hid (HO9.out.setTwo (i := 1) HT9.out (by decide) (.int .i64 1))
          have HT10 := hid (HT9.out.set1 (.int .i64 1))
          have HB10 := hid (HB9.out.setCell (p := ⟨b, 1, none⟩) hb0 (.int .i64 1))
          clear ho9 hb9 hk9 q1 q2 q3 q4
          go_wp2_with fail
          go_ret
          exact ⟨HB10.out, rfl, 1, ⟨hb0, _, HT10.out, HO10.out⟩, rfl⟩
        · have hd : decide ((ac.length : Int) + (q : Int) < 63) = false := by simpa using hroom
          rw [hd] at HRM
          have hR0 : R = none := by rw [HR.out]; simp [hroom]
          subst hR0
          go_wp2_with fail
          refine HRM.out.mono ?_
          rintro e w3 ⟨rfl, rfl⟩
          go_wp2_with fail
          go_ret
          exact ⟨B2.out.mono hbs, rfl⟩
      · have HRM := hid (hasRoom_any b base ac kd 16 w2 (by omega) (by omega) R2.out)
        by_cases hroom : ac.length + 16 < 63
        · have hd : decide ((ac.length : Int) + 16 < 63) = true := by simp; omega
          rw [hd] at HRM
          have hR0 : R = some (ac ++ List.replicate 16 0, true) := by rw [HR.out]; simp [hroom]
          subst hR0
          go_wp2_with fail
          refine HRM.out.mono ?_
          rintro e w3 ⟨rfl, rfl⟩
          go_wp2_with fail
          refine (zeros_any b base ac kd 16 w2 (by omega) (by omega) R2.out).mono ?_
          rintro e w3 ⟨rfl, ⟨_, v3, t3, o3⟩, hb3⟩
          have B3 := hid ((B2.out.mono hbs).trans hb3)
          generalize ac ++ List.replicate 16 (0 : Int) = A at *
          obtain ⟨vo, vc, rfl⟩ := o3.shape
          obtain ⟨q1, q2, q3, q4⟩ := t3.cells
          have HO10 := hid (o3.setTwo (i := 1) t3 (by decide) (.int .i64 2))
          have HT10 := hid (t3.set1 (.int .i64 2))
          have HB10 := hid (B3.out.setCell (p := ⟨b, 1, none⟩) hb0 (.int .i64 2))
          clear t3 o3 hb3 R2
          go_wp2_with fail
          go_ret
          exact ⟨HB10.out, rfl, 2, ⟨hb0, _, HT10.out, HO10.out⟩, rfl⟩
        · have hd : decide ((ac.length : Int) + 16 < 63) = false := by simp; omega
          rw [hd] at HRM
          have hR0 : R = none := by rw [HR.out]; simp [hroom]
          subst hR0
          go_wp2_with fail
          refine HRM.out.mono ?_
          rintro e w3 ⟨rfl, rfl⟩
          go_wp2_with fail
          go_ret
          exact ⟨B2.out.mono hbs, rfl⟩
      · obtain ⟨_, v2, t2, o2⟩ := R2.out
        obtain ⟨vo, vc, rfl⟩ := o2.shape
        obtain ⟨q1, q2, q3, q4⟩ := t2.cells
        clear t2 o2
        by_cases hkd : kd = 2
        · have hR0 : R = none := by rw [HR.out]; simp [hkd]
          subst hR0
          have hd : (kd == 2) = true := by simpa using hkd
          clear hkd
          go_wp2_with fail
          go_ret
          exact ⟨B2.out.mono hbs, rfl⟩
        · have hR0 : R = some (ac ++ List.replicate (63 - ac.length) 0, false) := by rw [HR.out]; simp [hkd]
          subst hR0
          have hd : (kd == 2) = false := by simpa using hkd
          have hz : (63 : Int) - (ac.length : Int) = ((63 - ac.length : Nat) : Int) := by omega
          have HZ := hid (zeros_any b base ac kd (63 - ac.length) w2 (by omega) (by omega) R2.out)
          rw [← hz] at HZ
          clear hkd hz
          go_wp2_with fail
          refine HZ.out.mono ?_
          rintro e w3 ⟨rfl, ⟨_, v3, t3, o3⟩, hb3⟩
          have B3 := hid ((B2.out.mono hbs).trans hb3)
          generalize ac ++ List.replicate (63 - ac.length) (0 : Int) = A at *
          obtain ⟨vo', vc', rfl⟩ := o3.shape
          obtain ⟨p1, p2, p3, p4⟩ := t3.cells
          have HO10 := hid (o3.setTwo (i := 1) t3 (by decide) (.int .i64 3))
          have HT10 := hid (t3.set1 (.int .i64 3))
          have HB10 := hid (B3.out.setCell (p := ⟨b, 1, none⟩) hb0 (.int .i64 3))
          clear t3 o3 hb3 R2 q1 q2 q3 q4
          go_wp2_with fail
          go_ret
          exact ⟨HB10.out, rfl, 3, ⟨hb0, _, HT10.out, HO10.out⟩, rfl⟩
  · have hR := takeR_bad (ac := ac) (sk := kd == 2) (r := r) hg
    have HFR := hid (impl_from_no bo bc n bits _ hbl HV.out hg)
    rw [hR]
    clear hg hR
    go_enter Try.func87, Try.ntmps87
    go_wp2_with fail
    refine HFR.out.mono ?_
    generalize w.alloc (.cells #[.int .i64 r, .int .i64 n, .slice bo bits.length bc] 73) = wa at *
    rintro e w1 ⟨rfl, hb1⟩
    have B1 := hid (HB.out.trans (hb1.mono HB.out.size))
    clear hb1
    go_wp2_with fail
    go_ret
    exact ⟨B1.out.mono hbs, rfl⟩
end Go.Proofs.Ytcikmgdfelejpaa

/- The contract of FromSteps of the program. -/
namespace Go.Proofs.Ytcikmgdfelejpaa
open Go.RowKit
set_option linter.unusedVariables false

theorem readTo_none (L : List (Int × Int × List Int)) (k : Nat) (h : readTo L k = none) : ∀ n, k ≤ n → readTo L n = none
  | 0, hn => by have : k = 0 := by omega
                subst this; exact h
  | n + 1, hn => by
    by_cases e : k = n + 1
    · rw [← e]; exact h
    · rw [readTo, readTo_none L k h n (by omega)]; rfl
theorem readTo_len {L : List (Int × Int × List Int)} {k : Nat} {ac : List Int} {sk : Bool} (hk : k ≤ L.length) (h : readTo L k = some (ac, sk)) : ac.length ≤ 63 := by
  rcases take_inv L k ac sk hk h with h1 | h1
  · exact h1.2.1
  · exact Nat.le_of_eq h1.1
theorem fromR_no {dc : Int} {L : List (Int × Int × List Int)} (h : inC dc = false) : fromR dc L = none := by unfold fromR; rw [if_neg (by simp [h])]
theorem fromR_stop {dc : Int} {L : List (Int × Int × List Int)} (h : readTo L L.length = none) : fromR dc L = none := by
  unfold fromR; rw [h]; split <;> rfl
theorem fromR_end {dc : Int} {L : List (Int × Int × List Int)} {ac : List Int} {sk : Bool} (hd : inC dc = true) (h : readTo L L.length = some (ac, sk)) : fromR dc L = if ac.length = 63 then some ac else none := by
  unfold fromR; rw [h, if_pos hd]; rfl

/-- What FromSteps answers. -/
def FrP (R : Option (List Int)) (dc : Int) (w : World) (e : Ending) (w' : World) : Prop :=
  Below w.heap.size w w' ∧ ∃ v, e = .returned (.tuple #[.agg #[.int .i64 (if R.isSome then dc else 0), v], .bool R.isSome]) ∧ Own w' w.heap.size 3 .i64 v (R.getD [])

set_option maxHeartbeats 800000 in
theorem newAc_any (w : World) : Calls Try.prog 84 #[] w fun e w' => ∃ v, e = .returned (.agg #[v, .int .i64 0]) ∧ Own w' w.heap.size 3 .i64 v [] ∧ Below w.heap.size w w' := by
  have HT := hid (Two.new w (.slice none 0 0) (.int .i64 0) 123)
  have HB := hid ((Below.refl w.heap.size w).alloc (Nat.le_refl _) (.cells #[.slice none 0 0, .int .i64 0] 123))
  have hlt : w.heap.size < (w.alloc (.cells #[.slice none 0 0, .int .i64 0] 123)).heap.size := by simp
  go_enter Try.func84, Try.ntmps84
  go_wp2_with (at_make; refine wpList_mk0 _ rfl _ _ 22 rfl (w.heap.size + 1) 3 .i64 0 8 Try.underlying22 Try.info3 _ _ 63 rfl rfl (by decide) (by decide) hlt ?_)
  generalize w.alloc (.cells #[.slice none 0 0, .int .i64 0] 123) = wa at *
  intro w1 ho1 hb1
  have T1 := hid (HT.out.below hb1 (by omega))
  obtain ⟨q1, q2, q3, q4⟩ := T1.out.cells
  have B1 := hid (HB.out.trans (hb1.mono (by omega)))
  have HO := hid ho1
  clear ho1 hb1
  go_wp2_with fail
  have c0 := (T1.out.set0 (.slice (some ⟨w.heap.size + 1, 0, none⟩) 0 63)).set1 (.int .i64 0)
  obtain ⟨p1, p2, p3, p4⟩ := c0.cells
  refine bodyPost_ret (v := .agg #[.slice (some ⟨w.heap.size + 1, 0, none⟩) 0 63, .int .i64 0]) (by simp [results, Try.results84, go_sem, p1, p2]) rfl ⟨_, rfl, ?_, ?_⟩
  · exact ((HO.out.setCell_below (a := ⟨w.heap.size, 0, none⟩) (by show w.heap.size < w.heap.size + 1; omega) _).setCell_below (a := ⟨w.heap.size, 1, none⟩) (by show w.heap.size < w.heap.size + 1; omega) _).mono (by omega)
  · exact (B1.out.setCell (p := ⟨w.heap.size, 0, none⟩) (Nat.le_refl _) _).setCell (p := ⟨w.heap.size, 1, none⟩) (Nat.le_refl _) _

/-- The end of FromSteps that says no. -/
theorem FrP.no {dc : Int} {w w' : World} {b : Nat} (h : Two w' b (.int .i64 0) (.slice none 0 0) 71) (hb : Below w.heap.size w w') : FrP none dc w (.returned (.tuple #[.agg #[.int .i64 0, .slice none 0 0], .bool false])) w' :=
  ⟨hb, _, rfl, Own.nil w' 3 .i64 w.heap.size hb.size⟩

end Go.Proofs.Ytcikmgdfelejpaa
