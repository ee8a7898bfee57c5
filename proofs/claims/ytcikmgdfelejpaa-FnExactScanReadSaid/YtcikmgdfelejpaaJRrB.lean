/- The contracts of ScanRead, of the program and of the specification. -/
import Derived.Test.YtcikmgdfelejpaaJRdL
import Derived.Test.YtcikmgdfelejpaaJUnW
import Derived.Test.YtcikmgdfelejpaaJGetB
import Derived.Test.YtcikmgdfelejpaaJText
namespace Go.Proofs.Ytcikmgdfelejpaa
open Go.RowKit Go.Maps
set_option linter.unusedVariables false

theorem Own.slok {w : World} {base : Nat} {ao : Option Addr} {n c : Nat} {xs : List Int} (h : Own w base 3 .i64 (.slice ao n c) xs) : SlOk ao xs.length c := by
  rcases h.2.2 with ⟨e, h0⟩ | ⟨g, cap, cur, e, _, _, hle, _⟩
  · cases e; exact .inl ⟨rfl, h0, rfl⟩
  · cases e; exact .inr ⟨_, _, rfl, hle⟩
theorem unR_size (s : ByteArray) : (unR s).1.size ≤ 60000 := by
  cases hu : unst (bt s) s.size s.size 0 [] with
  | none => rw [unR_none s hu]; show (0 : Nat) ≤ 60000; omega
  | some xs =>
    by_cases hl : 60000 < xs.length
    · rw [unR_long s xs hu hl]; show (0 : Nat) ≤ 60000; omega
    · rw [unR_some s xs hu hl, strOfNums_size]; omega
/-- What ScanRead answers. -/
def RrP (L : List (Int × List Int)) (G : Bool) (w : World) (e : Ending) (w' : World) : Prop := ∃ v vs, e = .returned (.tuple #[v, .bool G]) ∧ OwnK w' w.heap.size v L vs ∧ Below w.heap.size w w'
theorem RrP.no {w w' : World} (g : Nat) (hg : w'.heap.size = g) (hb : Below w.heap.size w w') : RrP [] false w (.returned (.tuple #[.slice (some ⟨g, 0, none⟩) 0 0, .bool false])) (w'.alloc (.cells #[] 71)) := by
  subst hg
  exact ⟨_, [], rfl, OwnK.empty w' _ hb.size, hb.alloc hb.size _⟩

set_option maxRecDepth 100000 in
set_option maxHeartbeats 1600000 in
theorem impl_read (v : Value) (T : Tb) (s : ByteArray) (n : Int) (w : World) (h0 : T.cs.length ≤ 1048576) (h1 : T.ss.length ≤ 1048576) (h2 : T.ct.length ≤ 1048576) (h3 : T.st.length ≤ 1048576) (hs : s.size ≤ 1048576) (ht : TV w v T.cs T.ss T.ct T.st)
    (P : ByteArray) (ok : Bool) (hP : unR s = (P, ok)) (xs : List Int) (hxs : xs = bl (rbS P) (8 * P.size)) (L : List (Int × List Int)) (N : Nat) (F : Bool) (hL : sbL T xs n = L) (hN : sbN T xs n = N) (hF : sbB T xs n = F) (u : ByteArray) (b : Bool)
    (hX : ∀ v ao cap w, TV w v T.cs T.ss T.ct T.st → BRow w ao L → Calls Try.prog 31 #[v, .slice ao L.length cap] w fun e w' => e = .returned (.tuple #[.string u, .bool b]) ∧ Below w.heap.size w w')
    (E : Bool) (hE : (u.toList == s.toList) = E) (RL : List (Int × List Int)) (RG : Bool) (hY : ok = true → F = true → b = true → E = true → RL = L ∧ RG = true) (hZ : ¬ (ok = true ∧ F = true ∧ b = true ∧ E = true) → RL = [] ∧ RG = false) :
    Calls Try.prog 33 #[v, .string s, .int .i64 n] w (RrP RL RG w) := by
  have hPs := unR_size s
  rw [hP] at hPs
  have HU := hid (fun q => impl_unstuff_any s q hs)
  rw [hP] at HU
  have HG := hid (fun q => impl_getBits P q hPs)
  rw [← hxs] at HG
  have hxl : xs.length ≤ 480000 := by rw [hxs, bl_length]; simp only at hPs; omega
  have HSB := hid (fun v ao cap q hsl ht hv => (impl_scanBlocks v T ao cap xs n q h0 h1 h2 h3 (by omega) hsl ht hv).mono (fun _ _ h => h.all))
  rw [hL, hN, hF] at HSB
  have HX := hid hX
  have HTV := hid ht
  have HY := hid hY
  have HZ := hid hZ
  have HE := hid hE
  obtain ⟨a0, c0, a1, c1, a2, c2, a3, c3, rfl, _, _⟩ := ht
  have HB := hid ((Below.refl w.heap.size w).alloc (Nat.le_refl _) (.cells #[.slice a0 T.cs.length c0, .slice a1 T.ss.length c1, .slice a2 T.ct.length c2, .slice a3 T.st.length c3] 34))
  have HF := hid (Four.new w (.slice a0 T.cs.length c0) (.slice a1 T.ss.length c1) (.slice a2 T.ct.length c2) (.slice a3 T.st.length c3) 34)
  clear hP hPs hxs hxl hL hN hF hX h0 h1 h2 h3 hY hZ hE
  go_enter Try.func33, Try.ntmps33
  go_wp2_with fail
  refine (HU.out _).mono ?_
  generalize w.alloc (.cells #[.slice a0 T.cs.length c0, .slice a1 T.ss.length c1, .slice a2 T.ct.length c2, .slice a3 T.st.length c3] 34) = wa at *
  rintro e w1 ⟨rfl, hb1⟩
  have B1 := hid (HB.out.trans (hb1.mono HB.out.size))
  have F1 := hid (HF.out.below hb1 HF.out.lt)
  clear hb1 HB HF
  cases ok with
  | false =>
    obtain ⟨rfl, rfl⟩ := HZ.out (fun h => by cases h.1)
    go_wp2_with fail
    go_ret2
    exact RrP.no _ rfl B1.out
  | true =>
    obtain ⟨q0, q1, q2, q3⟩ := F1.out.cells
    have HFC := hid (fun q (hq : Below w1.heap.size w1 q) => (F1.out.below hq F1.out.lt).cells)
    go_wp2_with fail
    go_region_held3 (fun q => q.cell? ⟨w.heap.size, 0, none⟩ = some (.slice a0 T.cs.length c0) ∧ q.cell? ⟨w.heap.size, 1, none⟩ = some (.slice a1 T.ss.length c1) ∧ q.cell? ⟨w.heap.size, 2, none⟩ = some (.slice a2 T.ct.length c2) ∧ q.cell? ⟨w.heap.size, 3, none⟩ = some (.slice a3 T.st.length c3)) (go_keep) (first
      | (go_at_call 24; have hX := hcA; refine (HSB.out _ _ _ _ ?_ ?_ ?_).mono ?_; · exact ho2.slok
         · first | exact HTV.out.below (B1.out.trans (hcA.mono B1.out.size)) | exact (HTV.out.below (B1.out.trans (hcA.mono B1.out.size))).below (Below.refl _ _).drew
         · first | exact hv2 | exact hv2.below (Nat.le_refl _) (Below.refl _ _).drew
         rintro e w3 ⟨g0, gs, rfl, hg0, hb3⟩
         have hcB : Below w1.heap.size w1 w3 := by first | exact hcA.trans (hb3.mono hcA.size) | exact hcA.trans ((Below.trans (Below.refl _ _).drew hb3).mono hcA.size)
         have hg1 : OwnK w3 w1.heap.size g0 L gs := hg0.mono hcA.size
         obtain ⟨go, gc, rfl⟩ := hg0.shape
         obtain ⟨f0, f1, f2, f3⟩ := HFC.out _ hcB)
      | (go_at_call 65; refine (HG.out _).mono ?_; rintro e w2 ⟨vb, rfl, ho2, hb2⟩
         have hcA : Below w1.heap.size w1 w2 := by first | exact hb2 | exact Below.trans (Below.refl _ _).drew hb2
         obtain ⟨bo, bc, ee, hv2⟩ := ho2.view
         subst ee
         obtain ⟨t0, t1, t2, t3⟩ := HFC.out _ hcA))
    all_goals
      have B3 := hid (B1.out.trans (hcB.mono B1.out.size))
      have F3 := hid (F1.out.below hcB F1.out.lt)
      have O3 := hid hg1
      have hw1 := B1.out.size
      clear hcA hcB hg0 hg1 ho2 hv2 hb2 hb3 q0 q1 q2 q3 f0 f1 f2 f3 t0 t1 t2 t3
      cases F with
      | false =>
        obtain ⟨rfl, rfl⟩ := HZ.out (fun h => by cases h.2.1)
        go_wp2_with fail
        go_ret2
        exact RrP.no _ rfl B3.out
      | true =>
        obtain ⟨q0, q1, q2, q3⟩ := F3.out.cells
        go_wp2_with fail
        refine (HX.out _ _ _ _ (HTV.out.below B3.out) O3.out.brow).mono ?_
        rintro e w4 ⟨rfl, hb4⟩
        have B4 := hid (B3.out.trans (hb4.mono B3.out.size))
        have O4 := hid (O3.out.below hb4)
        clear hb4 q0 q1 q2 q3
        cases b with
        | false =>
          obtain ⟨rfl, rfl⟩ := HZ.out (fun h => by cases h.2.2.1)
          go_wp2_with fail
          go_ret2
          exact RrP.no _ rfl B4.out
        | true =>
          cases E with
          | true =>
            obtain ⟨rfl, rfl⟩ := HY.out (by simp) (by simp) (by simp) (by simp)
            have hEE := HE.out
            go_wp2_with fail
            go_ret2
            exact ⟨_, _, rfl, O4.out.mono hw1, B4.out⟩
          | false =>
            obtain ⟨rfl, rfl⟩ := HZ.out (fun h => by cases h.2.2.2)
            have hEE := HE.out
            go_wp2_with fail
            go_ret2
            exact RrP.no _ rfl B4.out
set_option maxRecDepth 100000 in
set_option maxHeartbeats 1600000 in
theorem spec_read (v : Value) (T : Tb) (s : ByteArray) (n : Int) (w : World) (h0 : T.cs.length ≤ 1048576) (h1 : T.ss.length ≤ 1048576) (h2 : T.ct.length ≤ 1048576) (h3 : T.st.length ≤ 1048576) (hs : s.size ≤ 1048576) (ht : TV w v T.cs T.ss T.ct T.st)
    (P : ByteArray) (ok : Bool) (hP : unR s = (P, ok)) (xs : List Int) (hxs : xs = bl (rbS P) (8 * P.size)) (L : List (Int × List Int)) (N : Nat) (F : Bool) (hL : sbL T xs n = L) (hN : sbN T xs n = N) (hF : sbB T xs n = F) (u : ByteArray) (b : Bool)
    (hX : ∀ v ao cap w, TV w v T.cs T.ss T.ct T.st → BRow w ao L → Calls Try.prog 30 #[v, .slice ao L.length cap] w fun e w' => e = .returned (.tuple #[.string u, .bool b]) ∧ Below w.heap.size w w')
    (E : Bool) (hE : (u.toList == s.toList) = E) (RL : List (Int × List Int)) (RG : Bool) (hY : ok = true → F = true → b = true → E = true → RL = L ∧ RG = true) (hZ : ¬ (ok = true ∧ F = true ∧ b = true ∧ E = true) → RL = [] ∧ RG = false) :
    Calls Try.prog 32 #[v, .string s, .int .i64 n] w (RrP RL RG w) := by
  have hPs := unR_size s
  rw [hP] at hPs
  have HU := hid (fun q => spec_unstuff s q hs)
  rw [hP] at HU
  have HG := hid (fun q => spec_getBits P q hPs)
  rw [← hxs] at HG
  have hxl : xs.length ≤ 480000 := by rw [hxs, bl_length]; simp only at hPs; omega
  have HSB := hid (fun v ao cap q hsl ht hv => (spec_scanBlocks v T ao cap xs n q h0 h1 h2 h3 (by omega) hsl ht hv).mono (fun _ _ h => h.all))
  rw [hL, hN, hF] at HSB
  have HX := hid hX
  have HTV := hid ht
  have HY := hid hY
  have HZ := hid hZ
  have HE := hid hE
  obtain ⟨a0, c0, a1, c1, a2, c2, a3, c3, rfl, _, _⟩ := ht
  have HB := hid ((Below.refl w.heap.size w).alloc (Nat.le_refl _) (.cells #[.slice a0 T.cs.length c0, .slice a1 T.ss.length c1, .slice a2 T.ct.length c2, .slice a3 T.st.length c3] 34))
  have HF := hid (Four.new w (.slice a0 T.cs.length c0) (.slice a1 T.ss.length c1) (.slice a2 T.ct.length c2) (.slice a3 T.st.length c3) 34)
  clear hP hPs hxs hxl hL hN hF hX h0 h1 h2 h3 hY hZ hE
  go_enter Try.func32, Try.ntmps32
  go_wp2_with fail
  refine (HU.out _).mono ?_
  generalize w.alloc (.cells #[.slice a0 T.cs.length c0, .slice a1 T.ss.length c1, .slice a2 T.ct.length c2, .slice a3 T.st.length c3] 34) = wa at *
  rintro e w1 ⟨rfl, hb1⟩
  have B1 := hid (HB.out.trans (hb1.mono HB.out.size))
  have F1 := hid (HF.out.below hb1 HF.out.lt)
  clear hb1 HB HF
  cases ok with
  | false =>
    obtain ⟨rfl, rfl⟩ := HZ.out (fun h => by cases h.1)
    go_wp2_with fail
    go_ret2
    exact RrP.no _ rfl B1.out
  | true =>
    obtain ⟨q0, q1, q2, q3⟩ := F1.out.cells
    have HFC := hid (fun q (hq : Below w1.heap.size w1 q) => (F1.out.below hq F1.out.lt).cells)
    go_wp2_with fail
    go_region_held3 (fun q => q.cell? ⟨w.heap.size, 0, none⟩ = some (.slice a0 T.cs.length c0) ∧ q.cell? ⟨w.heap.size, 1, none⟩ = some (.slice a1 T.ss.length c1) ∧ q.cell? ⟨w.heap.size, 2, none⟩ = some (.slice a2 T.ct.length c2) ∧ q.cell? ⟨w.heap.size, 3, none⟩ = some (.slice a3 T.st.length c3)) (go_keep) (first
      | (go_at_call 22; have hX := hcA; refine (HSB.out _ _ _ _ ?_ ?_ ?_).mono ?_; · exact ho2.slok
         · first | exact HTV.out.below (B1.out.trans (hcA.mono B1.out.size)) | exact (HTV.out.below (B1.out.trans (hcA.mono B1.out.size))).below (Below.refl _ _).drew
         · first | exact hv2 | exact hv2.below (Nat.le_refl _) (Below.refl _ _).drew
         rintro e w3 ⟨g0, gs, rfl, hg0, hb3⟩
         have hcB : Below w1.heap.size w1 w3 := by first | exact hcA.trans (hb3.mono hcA.size) | exact hcA.trans ((Below.trans (Below.refl _ _).drew hb3).mono hcA.size)
         have hg1 : OwnK w3 w1.heap.size g0 L gs := hg0.mono hcA.size
         obtain ⟨go, gc, rfl⟩ := hg0.shape
         obtain ⟨f0, f1, f2, f3⟩ := HFC.out _ hcB)
      | (go_at_call 63; refine (HG.out _).mono ?_; rintro e w2 ⟨vb, rfl, ho2, hb2⟩
         have hcA : Below w1.heap.size w1 w2 := by first | exact hb2 | exact Below.trans (Below.refl _ _).drew hb2
         obtain ⟨bo, bc, ee, hv2⟩ := ho2.view
         subst ee
         obtain ⟨t0, t1, t2, t3⟩ := HFC.out _ hcA))
    all_goals
      have B3 := hid (B1.out.trans (hcB.mono B1.out.size))
      have F3 := hid (F1.out.below hcB F1.out.lt)
      have O3 := hid hg1
      have hw1 := B1.out.size
      clear hcA hcB hg0 hg1 ho2 hv2 hb2 hb3 q0 q1 q2 q3 f0 f1 f2 f3 t0 t1 t2 t3
      obtain ⟨q0, q1, q2, q3⟩ := F3.out.cells
      go_wp2_with fail
      refine (HX.out _ _ _ _ (HTV.out.below B3.out) O3.out.brow).mono ?_
      rintro e w4 ⟨rfl, hb4⟩
      have B4 := hid (B3.out.trans (hb4.mono B3.out.size))
      have O4 := hid (O3.out.below hb4)
      clear hb4 q0 q1 q2 q3
      cases F with
      | false =>
        obtain ⟨rfl, rfl⟩ := HZ.out (fun h => by cases h.2.1)
        go_wp2_with fail
        go_ret2
        exact RrP.no _ rfl B4.out
      | true =>
        cases b with
        | false =>
          obtain ⟨rfl, rfl⟩ := HZ.out (fun h => by cases h.2.2.1)
          go_wp2_with fail
          go_ret2
          exact RrP.no _ rfl B4.out
        | true =>
          cases E with
          | true =>
            obtain ⟨rfl, rfl⟩ := HY.out (by simp) (by simp) (by simp) (by simp)
            have hEE := HE.out
            go_wp2_with fail
            go_ret2
            exact ⟨_, _, rfl, O4.out.mono hw1, B4.out⟩
          | false =>
            obtain ⟨rfl, rfl⟩ := HZ.out (fun h => by cases h.2.2.2)
            have hEE := HE.out
            go_wp2_with fail
            go_ret2
            exact RrP.no _ rfl B4.out

end Go.Proofs.Ytcikmgdfelejpaa
