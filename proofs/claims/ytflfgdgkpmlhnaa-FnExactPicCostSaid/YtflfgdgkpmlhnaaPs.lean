/- The contract of the specification's PicWrite. -/
import Derived.Test.YtflfgdgkpmlhnaaPd
import Derived.Test.YtflfgdgkpmlhnaaPc
import Derived.Test.YtflfgdgkpmlhnaaPu
import Derived.Test.YtflfgdgkpmlhnaaRg
import Derived.Deep.CutRange
namespace Go.Proofs.Ytflfgdgkpmlhnaa
open Go.RowKit Go.Maps
set_option linter.unusedVariables false

def codesS (cs ss : List Int) : ByteArray := if rightC cs ss = true then strOfNums (cs ++ ss) else ⟨#[]⟩
/-- The bytes of a picture's file. -/
def fileS (p : Pk) (U : ByteArray) : ByteArray := strOfNums [255, 216, p.W, p.H] ++ codesS p.T.cs p.T.ss ++ codesS p.T.ct p.T.st ++ strOfNums (nb p.N.size p.N.size) ++ p.N ++ U ++ strOfNums [255, 217]

theorem Own.made (w : World) (base : Nat) (xs : List Int) (hb : base ≤ w.heap.size) (hl : xs.length ≤ 1000) : Own (w.alloc (.cells (xs.map (Value.int .u8)).toArray 5)) base 5 .u8 (.slice (some ⟨w.heap.size, 0, none⟩) xs.length xs.length) xs :=
  ⟨Nat.le_trans hb (by simp), by simp, .inr ⟨w.heap.size, xs.length, _, rfl, hb, heap_alloc_new w _, Nat.le_refl _, by unfold maxLen; omega, by simp, by simpa using List.take_of_length_le (by simp)⟩⟩

/-- What each operation of the specification's long sum leaves. -/
def VW (B M : Nat) (W H : Int) (s0 s1 s2 s3 : Value) (N U P0 P1 NU A B2 X1 X2 X3 X4 X5 X6 : ByteArray) : Nat → Value → World → Prop
  | 0, v, _ => v = .pointer (some ⟨B, 0, none⟩)
  | 1, v, _ => v = .int .i64 W
  | 2, v, _ => v = .int .u8 W
  | 3, v, _ => v = .pointer (some ⟨B, 1, none⟩)
  | 4, v, _ => v = .int .i64 H
  | 5, v, _ => v = .int .u8 H
  | 6, v, w => Own w M 5 .u8 v [255, 216, W, H]
  | 7, v, _ => v = .string A
  | 8, v, _ => v = .pointer (some ⟨B, 2, none⟩)
  | 9, v, _ => v = .pointer (some ⟨B, 2, none⟩)
  | 10, v, _ => v = .agg #[s0, s1]
  | 11, v, _ => v = .string P0
  | 12, v, _ => v = .string X1
  | 13, v, _ => v = .pointer (some ⟨B, 2, none⟩)
  | 14, v, _ => v = .pointer (some ⟨B, 4, none⟩)
  | 15, v, _ => v = .agg #[s2, s3]
  | 16, v, _ => v = .string P1
  | 17, v, _ => v = .string X2
  | 18, v, _ => v = .pointer (some ⟨B, 6, none⟩)
  | 19, v, _ => v = .string N
  | 20, v, _ => v = .int .i64 N.size
  | 21, v, _ => v = .string NU
  | 22, v, _ => v = .string X3
  | 23, v, _ => v = .pointer (some ⟨B, 6, none⟩)
  | 24, v, _ => v = .string N
  | 25, v, _ => v = .string X4
  | 26, v, _ => v = .string U
  | 27, v, _ => v = .string X5
  | 28, v, w => Own w M 5 .u8 v [255, 217]
  | 29, v, _ => v = .string B2
  | 30, v, _ => v = .string X6
  | 31, v, _ => v = .string X6
  | _, _, _ => True
theorem VW.mono {B M : Nat} {W H : Int} {s0 s1 s2 s3 : Value} {N U P0 P1 NU A B2 X1 X2 X3 X4 X5 X6 : ByteArray} {w w' : World} (hb : Below w.heap.size w w') : ∀ j x, VW B M W H s0 s1 s2 s3 N U P0 P1 NU A B2 X1 X2 X3 X4 X5 X6 j x w → VW B M W H s0 s1 s2 s3 N U P0 P1 NU A B2 X1 X2 X3 X4 X5 X6 j x w' := by
  intro j x h
  unfold VW at h
  split at h
  all_goals first
    | exact Own.below h hb
    | exact h
    | skip
  all_goals
    unfold VW
    split <;> first | trivial | omega
def DW (j : Nat) : Nat := if j = 31 then 6 else j + 18
theorem DW_ne (i j : Nat) (hi : i < 32) (hj : j < 32) (h : j ≠ i) : DW j ≠ DW i := by
  unfold DW
  split <;> split <;> omega
theorem codesS_size (cs ss : List Int) (h0 : cs.length ≤ 1048576) (h1 : ss.length ≤ 1048576) : (codesS cs ss).size ≤ 2097152 := by
  unfold codesS
  split
  · rw [strOfNums_size, List.length_append]; omega
  · decide
theorem nb_lenF : ∀ (f : Nat) (x : Int), (nb f x).length ≤ f + 1
  | 0, x => by simp [nb]
  | f + 1, x => by
    have := nb_lenF f (x / 128)
    simp only [nb]
    split <;> simp <;> omega
theorem nb_len (f : Nat) (x : Int) (h : f ≤ 500) : (nb f x).length ≤ 1000 := by
  have := nb_lenF f x
  omega

set_option maxRecDepth 100000 in
set_option maxHeartbeats 1600000 in
theorem spec_write_yes (v : Value) (p : Pk) (w : World) (hf : p.Fits) (hv : PV w v p) (U : ByteArray) (hok : p.ok = true) (hU : U.size ≤ 1000000)
    (hs : ∀ v ao cap w, TV w v p.T.cs p.T.ss p.T.ct p.T.st → BRow w ao p.L → Calls Try.prog 29 #[v, .slice ao p.L.length cap] w fun e w' => e = .returned (.tuple #[.string U, .bool true]) ∧ Below w.heap.size w w') :
    Calls Try.prog 22 #[v] w fun e w' => e = .returned (if (fileS p U).size ≤ 60000 then .tuple #[.string (fileS p U), .bool true] else .tuple #[.string ⟨#[]⟩, .bool false]) ∧ Below w.heap.size w w' := by
  have HOK := hid (fun q (hq : Below w.heap.size w q) => spec_picOk v p q hf (hv.below hq) U true hs)
  rw [hok, Bool.true_and] at HOK
  have hk : (1 ≤ p.W ∧ p.W ≤ 40) ∧ (1 ≤ p.H ∧ p.H ≤ 40) ∧ (p.N.size : Int) ≤ 500 ∧ (p.L.length : Int) = p.W * p.H := by
    unfold Pk.ok at hok
    exact of_decide_eq_true hok
  obtain ⟨a0, c0, a1, c1, a2, c2, a3, c3, ao, cap, rfl, ht, hb⟩ := hv
  have HC := hid (fun q (hq : Below w.heap.size w q) => hs (.agg #[.slice a0 p.T.cs.length c0, .slice a1 p.T.ss.length c1, .slice a2 p.T.ct.length c2, .slice a3 p.T.st.length c3]) ao cap q (ht.below hq) (hb.below hq))
  have HP0 := hid (fun q (hq : Below w.heap.size w q) => show Calls Try.prog 14 #[.agg #[.slice a0 p.T.cs.length c0, .slice a1 p.T.ss.length c1]] q fun e w' => e = .returned (.string (codesS p.T.cs p.T.ss)) ∧ Below q.heap.size q w' from spec_putCodes (.agg #[.slice a0 p.T.cs.length c0, .slice a1 p.T.ss.length c1]) p.T.cs p.T.ss q hf.h0 hf.h1 (by obtain ⟨_, _, _, _, _, _, _, _, e, h1, _⟩ := ht.below hq; cases e; exact h1))
  have HP1 := hid (fun q (hq : Below w.heap.size w q) => show Calls Try.prog 14 #[.agg #[.slice a2 p.T.ct.length c2, .slice a3 p.T.st.length c3]] q fun e w' => e = .returned (.string (codesS p.T.ct p.T.st)) ∧ Below q.heap.size q w' from spec_putCodes (.agg #[.slice a2 p.T.ct.length c2, .slice a3 p.T.st.length c3]) p.T.ct p.T.st q hf.h2 hf.h3 (by obtain ⟨_, _, _, _, _, _, _, _, e, _, h1⟩ := ht.below hq; cases e; exact h1))
  have HNU := hid (fun q => show Calls Try.prog 47 #[.int .i64 (p.N.size : Int)] q fun e w' => e = .returned (.string (strOfNums (nb p.N.size p.N.size))) ∧ Below q.heap.size q w' from spec_putNum (p.N.size : Int) q (by omega) (by omega))
  have y0 := codesS_size p.T.cs p.T.ss hf.h0 hf.h1
  have y1 := codesS_size p.T.ct p.T.st hf.h2 hf.h3
  have y2 : (strOfNums (nb p.N.size p.N.size)).size ≤ 1000 := by rw [strOfNums_size]; exact nb_len _ _ (by omega)
  have y3 : p.N.size ≤ 500 := by omega
  have HFS := hid (show fileS p U = strOfNums [255, 216, p.W, p.H] ++ codesS p.T.cs p.T.ss ++ codesS p.T.ct p.T.st ++ strOfNums (nb p.N.size p.N.size) ++ p.N ++ U ++ strOfNums [255, 217] from rfl)
  generalize fileS p U = FULL at *
  generalize codesS p.T.cs p.T.ss = P0 at *
  generalize codesS p.T.ct p.T.st = P1 at *
  generalize strOfNums (nb p.N.size p.N.size) = NU at *
  clear hs ht hb hf hok
  generalize p.W = W at *
  generalize p.H = H at *
  generalize p.N = N at *
  generalize p.T.cs = cs at *
  generalize p.T.ss = ss at *
  generalize p.T.ct = ct at *
  generalize p.T.st = st at *
  generalize p.L = L at *
  have HB := hid ((Below.refl w.heap.size w).alloc (Nat.le_refl _) (.cells #[.int .i64 W, .int .i64 H, .slice a0 cs.length c0, .slice a1 ss.length c1, .slice a2 ct.length c2, .slice a3 st.length c3, .string N, .slice ao L.length cap] 37))
  have HE := hid (Eig.new w (.int .i64 W) (.int .i64 H) (.slice a0 cs.length c0) (.slice a1 ss.length c1) (.slice a2 ct.length c2) (.slice a3 st.length c3) (.string N) (.slice ao L.length cap) 37)
  go_enter Try.func22, Try.ntmps22
  go_wp2_with fail
  refine (HOK.out _ HB.out).mono ?_
  generalize w.alloc (.cells #[.int .i64 W, .int .i64 H, .slice a0 cs.length c0, .slice a1 ss.length c1, .slice a2 ct.length c2, .slice a3 st.length c3, .string N, .slice ao L.length cap] 37) = wa at *
  rintro e w1 ⟨rfl, hb1⟩
  have B1 := hid (HB.out.trans (hb1.mono HB.out.size))
  have E1 := hid (HE.out.below hb1 HE.out.lt)
  obtain ⟨q0, q1, q2, q3, q4, q5, q6, q7⟩ := E1.out.cells
  clear hb1 HOK HB HE
  go_wp2_with fail
  refine (HC.out _ B1.out).mono ?_
  rintro e w2 ⟨rfl, hb2⟩
  have B2 := hid (B1.out.trans (hb2.mono B1.out.size))
  have E2 := hid (E1.out.below hb2 E1.out.lt)
  clear hb2 HC E1 q0 q1 q2 q3 q4 q5 q6 q7
  obtain ⟨q0, q1, q2, q3, q4, q5, q6, q7⟩ := E2.out.cells
  go_wp2_with fail
  go_cut [6] from 18 to 53 (fun s wx => s = .string FULL ∧ Below w2.heap.size w2 wx)
  case first =>
    have hlt : w.heap.size < w2.heap.size := E2.out.lt
    obtain ⟨A, hA⟩ : ∃ A, A = strOfNums [255, 216, W, H] := ⟨_, rfl⟩
    obtain ⟨EB, hB2⟩ : ∃ A, A = strOfNums [255, 217] := ⟨_, rfl⟩
    have zA : A.size ≤ 4 := by rw [hA, strOfNums_size]; simp
    have zB : EB.size ≤ 2 := by rw [hB2, strOfNums_size]; simp
    obtain ⟨X1, hX1⟩ : ∃ X, X = A ++ P0 := ⟨_, rfl⟩
    obtain ⟨X2, hX2⟩ : ∃ X, X = X1 ++ P1 := ⟨_, rfl⟩
    obtain ⟨X3, hX3⟩ : ∃ X, X = X2 ++ NU := ⟨_, rfl⟩
    obtain ⟨X4, hX4⟩ : ∃ X, X = X3 ++ N := ⟨_, rfl⟩
    obtain ⟨X5, hX5⟩ : ∃ X, X = X4 ++ U := ⟨_, rfl⟩
    obtain ⟨X6, hX6⟩ : ∃ X, X = X5 ++ EB := ⟨_, rfl⟩
    have z1 : X1.size ≤ 3000000 := by rw [hX1, ByteArray.size_append]; omega
    have z2 : X2.size ≤ 6000000 := by rw [hX2, ByteArray.size_append]; omega
    have z3 : X3.size ≤ 6001000 := by rw [hX3, ByteArray.size_append]; omega
    have z4 : X4.size ≤ 6002000 := by rw [hX4, ByteArray.size_append]; omega
    have z5 : X5.size ≤ 7002000 := by rw [hX5, ByteArray.size_append]; omega
    have HFX : Hid (X6 = FULL) := by show _ = _; rw [HFS.out, hX6, hX5, hX4, hX3, hX2, hX1, hA, hB2]
    have hwW : IntKind.u8.wrap W = W := by rw [IntKind.wrap_u8]; omega
    have hwH : IntKind.u8.wrap H = H := by rw [IntKind.wrap_u8]; omega
    have K1 := hid hX1.symm
    have K2 := hid hX2.symm
    have K3 := hid hX3.symm
    have K4 := hid hX4.symm
    have K5 := hid hX5.symm
    have K6 := hid hX6.symm
    have KA := hid hA.symm
    have KB := hid hB2.symm
    clear hX1 hX2 hX3 hX4 hX5 hX6 hA hB2 q0 q1 q2 q3 q4 q5 q6 q7
    refine wp_region_any (by kernel_rfl) ?_
    refine wpAny_inv (fun listed a wq => ∃ u : Nat → Value, a = { tmps := #[.agg #[.int .i64 W, .int .i64 H, .slice a0 cs.length c0, .slice a1 ss.length c1, .slice a2 ct.length c2, .slice a3 st.length c3, .string N, .slice ao L.length cap], .pointer (some ⟨w.heap.size, 0, none⟩), .string ⟨#[]⟩, .bool false, .string U, .bool true, u 6, .agg #[.int .i64 W, .int .i64 H, .slice a0 cs.length c0, .slice a1 ss.length c1, .slice a2 ct.length c2, .slice a3 st.length c3, .string N, .slice ao L.length cap], .bool true, .bool false, .tuple #[.string U, .bool true], .pointer (some ⟨w.heap.size, 2, none⟩), .agg #[.slice a0 cs.length c0, .slice a1 ss.length c1, .slice a2 ct.length c2, .slice a3 st.length c3], .pointer (some ⟨w.heap.size, 7, none⟩), .slice ao L.length cap, .tuple #[.string U, .bool true], .string U, .bool true, u 18, u 19, u 20, u 21, u 22, u 23, u 24, u 25, u 26, u 27, u 28, u 29, u 30, u 31, u 32, u 33, u 34, u 35, u 36, u 37, u 38, u 39, u 40, u 41, u 42, u 43, u 44, u 45, u 46, u 47, u 48, undef, undef, undef, undef], defers := [] } ∧ Below w2.heap.size w2 wq ∧ Facts 32 (VW w.heap.size w2.heap.size W H (.slice a0 cs.length c0) (.slice a1 ss.length c1) (.slice a2 ct.length c2) (.slice a3 st.length c3) N U P0 P1 NU A EB X1 X2 X3 X4 X5 X6) DW listed u wq) ?hpre ?hstep ?hend _ _ _ _ rfl (by decide) ⟨fun _ => undef, rfl, (Below.refl _ _).drew, fun j hj hl => absurd hl (by simp [Array.getD])⟩
    case hpre => exact pre_of (by kernel_rfl)
    case hend =>
      rintro listed a wq hall ⟨u, rfl, hb, hF⟩
      have h6 : u 6 = .string X6 := hF 31 (by decide) (hall 31 (by decide))
      go_wp2_with fail
      go_meet
      exact ⟨by rw [h6, HFX.out], hb⟩
    case hstep =>
      rintro listed a wq i o hsz ⟨u, rfl, hb, hF⟩ ho hall
      obtain ⟨q0, q1, q2, q3, q4, q5, q6, q7⟩ := (E2.out.below hb hlt).cells
      have hi : i < 32 := (Array.getElem?_eq_some_iff.1 ho).1
      have ST : Hid (∀ (wz : World) (v : Value), Below wq.heap.size wq wz → VW w.heap.size w2.heap.size W H (.slice a0 cs.length c0) (.slice a1 ss.length c1) (.slice a2 ct.length c2) (.slice a3 st.length c3) N U P0 P1 NU A EB X1 X2 X3 X4 X5 X6 i v wz → Below w2.heap.size w2 wz ∧ Facts 32 (VW w.heap.size w2.heap.size W H (.slice a0 cs.length c0) (.slice a1 ss.length c1) (.slice a2 ct.length c2) (.slice a3 st.length c3) N U P0 P1 NU A EB X1 X2 X3 X4 X5 X6) DW (listed.setIfInBounds i true) (upd u (DW i) v) wz) := fun wz v hbz hv => ⟨hb.trans (hbz.mono hb.size), hF.step i v (fun j hj hne => DW_ne i j hi hj hne) (fun j x _ => VW.mono hbz j x) hv⟩
      obtain rfl | rfl | rfl | rfl | rfl | rfl | rfl | rfl | rfl | rfl | rfl | rfl | rfl | rfl | rfl | rfl | rfl | rfl | rfl | rfl | rfl | rfl | rfl | rfl | rfl | rfl | rfl | rfl | rfl | rfl | rfl | rfl : i = 0 ∨ i = 1 ∨ i = 2 ∨ i = 3 ∨ i = 4 ∨ i = 5 ∨ i = 6 ∨ i = 7 ∨ i = 8 ∨ i = 9 ∨ i = 10 ∨ i = 11 ∨ i = 12 ∨ i = 13 ∨ i = 14 ∨ i = 15 ∨ i = 16 ∨ i = 17 ∨ i = 18 ∨ i = 19 ∨ i = 20 ∨ i = 21 ∨ i = 22 ∨ i = 23 ∨ i = 24 ∨ i = 25 ∨ i = 26 ∨ i = 27 ∨ i = 28 ∨ i = 29 ∨ i = 30 ∨ i = 31 := by omega
      · cases ho
        refine wpOp_step rfl (fun K hK => ?_)
        go_simp
        refine hK _ _ ⟨upd u 18 (.pointer (some ⟨w.heap.size, 0, none⟩)), ?_, ST.out _ _ (Below.refl _ _) (rfl)⟩
        simp [upd]
      · cases ho
        have f0 : u 18 = .pointer (some ⟨w.heap.size, 0, none⟩) := hF 0 (by decide) (hall ⟨0, .data⟩ (by simp) rfl)
        refine wpOp_step rfl (fun K hK => ?_)
        simp only [f0]
        go_simp
        refine hK _ _ ⟨upd u 19 (.int .i64 W), ?_, ST.out _ _ (Below.refl _ _) (rfl)⟩
        simp [upd, f0]
      · cases ho
        have f1 : u 19 = .int .i64 W := hF 1 (by decide) (hall ⟨1, .data⟩ (by simp) rfl)
        refine wpOp_step rfl (fun K hK => ?_)
        simp only [f1]
        go_simp
        refine hK _ _ ⟨upd u 20 (.int .u8 W), ?_, ST.out _ _ (Below.refl _ _) (rfl)⟩
        simp [upd, f1]
      · cases ho
        refine wpOp_step rfl (fun K hK => ?_)
        go_simp
        refine hK _ _ ⟨upd u 21 (.pointer (some ⟨w.heap.size, 1, none⟩)), ?_, ST.out _ _ (Below.refl _ _) (rfl)⟩
        simp [upd]
      · cases ho
        have f3 : u 21 = .pointer (some ⟨w.heap.size, 1, none⟩) := hF 3 (by decide) (hall ⟨3, .data⟩ (by simp) rfl)
        refine wpOp_step rfl (fun K hK => ?_)
        simp only [f3]
        go_simp
        refine hK _ _ ⟨upd u 22 (.int .i64 H), ?_, ST.out _ _ (Below.refl _ _) (rfl)⟩
        simp [upd, f3]
      · cases ho
        have f4 : u 22 = .int .i64 H := hF 4 (by decide) (hall ⟨4, .data⟩ (by simp) rfl)
        refine wpOp_step rfl (fun K hK => ?_)
        simp only [f4]
        go_simp
        refine hK _ _ ⟨upd u 23 (.int .u8 H), ?_, ST.out _ _ (Below.refl _ _) (rfl)⟩
        simp [upd, f4]
      · cases ho
        have f2 : u 20 = .int .u8 W := hF 2 (by decide) (hall ⟨2, .data⟩ (by simp) rfl)
        have f5 : u 23 = .int .u8 H := hF 5 (by decide) (hall ⟨5, .data⟩ (by simp) rfl)
        refine wpOp_step rfl (fun K hK => ?_)
        simp only [f2, f5]
        go_simp
        refine hK _ _ ⟨upd u 24 (.slice (some ⟨wq.heap.size, 0, none⟩) 4 4), ?_, ST.out _ _ ((Below.refl _ _).alloc (Nat.le_refl _) _) (Own.made wq w2.heap.size [255, 216, W, H] hb.size (by simp))⟩
        simp [upd, f2, f5]
      · cases ho
        have f6 : Own wq w2.heap.size 5 .u8 (u 24) [255, 216, W, H] := hF 6 (by decide) (hall ⟨6, .data⟩ (by simp) rfl)
        refine wpOp_step rfl (fun K hK => ?_)
        have hc := Own.conv Try.underlying62 Try.underlying5 Try.underlying9 f6
        rw [KA.out] at hc
        go_simp
        refine hK _ _ ⟨upd u 25 (.string A), ?_, ST.out _ _ (by first | exact Below.refl _ _ | exact (Below.refl _ _).drew) (rfl)⟩
        simp [upd]
      · cases ho
        refine wpOp_step rfl (fun K hK => ?_)
        go_simp
        refine hK _ _ ⟨upd u 26 (.pointer (some ⟨w.heap.size, 2, none⟩)), ?_, ST.out _ _ (Below.refl _ _) (rfl)⟩
        simp [upd]
      · cases ho
        have f8 : u 26 = .pointer (some ⟨w.heap.size, 2, none⟩) := hF 8 (by decide) (hall ⟨8, .data⟩ (by simp) rfl)
        refine wpOp_step rfl (fun K hK => ?_)
        simp only [f8]
        go_simp
        refine hK _ _ ⟨upd u 27 (.pointer (some ⟨w.heap.size, 2, none⟩)), ?_, ST.out _ _ (Below.refl _ _) (rfl)⟩
        simp [upd, f8]
      · cases ho
        have f9 : u 27 = .pointer (some ⟨w.heap.size, 2, none⟩) := hF 9 (by decide) (hall ⟨9, .data⟩ (by simp) rfl)
        refine wpOp_step rfl (fun K hK => ?_)
        simp only [f9]
        go_simp
        refine hK _ _ ⟨upd u 28 (.agg #[.slice a0 cs.length c0, .slice a1 ss.length c1]), ?_, ST.out _ _ (Below.refl _ _) (rfl)⟩
        simp [upd, f9]
      · cases ho
        have f10 : u 28 = .agg #[.slice a0 cs.length c0, .slice a1 ss.length c1] := hF 10 (by decide) (hall ⟨10, .data⟩ (by simp) rfl)
        refine wpOp_step rfl (fun K hK => ?_)
        simp only [f10]
        go_simp
        go_wp2_with (go_at_call 14; refine (HP0.out wq (B2.out.trans (hb.mono B2.out.size))).mono ?_; rintro e wz ⟨rfl, hbz⟩)
        first | refine hK _ _ ⟨upd u 29 (.string P0), ?_, ST.out _ _ hbz rfl⟩ | refine ⟨upd u 29 (.string P0), ?_, ST.out _ _ hbz rfl⟩
        simp [upd, f10]
      · cases ho
        have f7 : u 25 = .string A := hF 7 (by decide) (hall ⟨7, .data⟩ (by simp) rfl)
        have f11 : u 29 = .string P0 := hF 11 (by decide) (hall ⟨11, .data⟩ (by simp) rfl)
        refine wpOp_step rfl (fun K hK => ?_)
        simp only [f7, f11]
        have hz : ¬ 9223372036854775807 < A.size + P0.size := by omega
        go_simp
        refine hK _ _ ⟨upd u 30 (.string X1), ?_, ST.out _ _ (by first | exact Below.refl _ _ | exact (Below.refl _ _).drew) (rfl)⟩
        simp [upd, f7, f11, K1.out]
      · cases ho
        refine wpOp_step rfl (fun K hK => ?_)
        go_simp
        refine hK _ _ ⟨upd u 31 (.pointer (some ⟨w.heap.size, 2, none⟩)), ?_, ST.out _ _ (Below.refl _ _) (rfl)⟩
        simp [upd]
      · cases ho
        have f13 : u 31 = .pointer (some ⟨w.heap.size, 2, none⟩) := hF 13 (by decide) (hall ⟨13, .data⟩ (by simp) rfl)
        refine wpOp_step rfl (fun K hK => ?_)
        simp only [f13]
        go_simp
        refine hK _ _ ⟨upd u 32 (.pointer (some ⟨w.heap.size, 4, none⟩)), ?_, ST.out _ _ (Below.refl _ _) (rfl)⟩
        simp [upd, f13]
      · cases ho
        have f14 : u 32 = .pointer (some ⟨w.heap.size, 4, none⟩) := hF 14 (by decide) (hall ⟨14, .data⟩ (by simp) rfl)
        refine wpOp_step rfl (fun K hK => ?_)
        simp only [f14]
        go_simp
        refine hK _ _ ⟨upd u 33 (.agg #[.slice a2 ct.length c2, .slice a3 st.length c3]), ?_, ST.out _ _ (Below.refl _ _) (rfl)⟩
        simp [upd, f14]
      · cases ho
        have f15 : u 33 = .agg #[.slice a2 ct.length c2, .slice a3 st.length c3] := hF 15 (by decide) (hall ⟨15, .data⟩ (by simp) rfl)
        refine wpOp_step rfl (fun K hK => ?_)
        simp only [f15]
        go_simp
        go_wp2_with (go_at_call 14; refine (HP1.out wq (B2.out.trans (hb.mono B2.out.size))).mono ?_; rintro e wz ⟨rfl, hbz⟩)
        first | refine hK _ _ ⟨upd u 34 (.string P1), ?_, ST.out _ _ hbz rfl⟩ | refine ⟨upd u 34 (.string P1), ?_, ST.out _ _ hbz rfl⟩
        simp [upd, f15]
      · cases ho
        have f12 : u 30 = .string X1 := hF 12 (by decide) (hall ⟨12, .data⟩ (by simp) rfl)
        have f16 : u 34 = .string P1 := hF 16 (by decide) (hall ⟨16, .data⟩ (by simp) rfl)
        refine wpOp_step rfl (fun K hK => ?_)
        simp only [f12, f16]
        have hz : ¬ 9223372036854775807 < X1.size + P1.size := by omega
        go_simp
        refine hK _ _ ⟨upd u 35 (.string X2), ?_, ST.out _ _ (by first | exact Below.refl _ _ | exact (Below.refl _ _).drew) (rfl)⟩
        simp [upd, f12, f16, K2.out]
      · cases ho
        refine wpOp_step rfl (fun K hK => ?_)
        go_simp
        refine hK _ _ ⟨upd u 36 (.pointer (some ⟨w.heap.size, 6, none⟩)), ?_, ST.out _ _ (Below.refl _ _) (rfl)⟩
        simp [upd]
      · cases ho
        have f18 : u 36 = .pointer (some ⟨w.heap.size, 6, none⟩) := hF 18 (by decide) (hall ⟨18, .data⟩ (by simp) rfl)
        refine wpOp_step rfl (fun K hK => ?_)
        simp only [f18]
        go_simp
        refine hK _ _ ⟨upd u 37 (.string N), ?_, ST.out _ _ (Below.refl _ _) (rfl)⟩
        simp [upd, f18]
      · cases ho
        have f19 : u 37 = .string N := hF 19 (by decide) (hall ⟨19, .data⟩ (by simp) rfl)
        refine wpOp_step rfl (fun K hK => ?_)
        simp only [f19]
        go_simp
        refine hK _ _ ⟨upd u 38 (.int .i64 N.size), ?_, ST.out _ _ (Below.refl _ _) (rfl)⟩
        simp [upd, f19]
      · cases ho
        have f20 : u 38 = .int .i64 N.size := hF 20 (by decide) (hall ⟨20, .data⟩ (by simp) rfl)
        refine wpOp_step rfl (fun K hK => ?_)
        simp only [f20]
        go_simp
        go_wp2_with (go_at_call 47; refine (HNU.out wq).mono ?_; rintro e wz ⟨rfl, hbz⟩)
        first | refine hK _ _ ⟨upd u 39 (.string NU), ?_, ST.out _ _ hbz rfl⟩ | refine ⟨upd u 39 (.string NU), ?_, ST.out _ _ hbz rfl⟩
        simp [upd, f20]
      · cases ho
        have f17 : u 35 = .string X2 := hF 17 (by decide) (hall ⟨17, .data⟩ (by simp) rfl)
        have f21 : u 39 = .string NU := hF 21 (by decide) (hall ⟨21, .data⟩ (by simp) rfl)
        refine wpOp_step rfl (fun K hK => ?_)
        simp only [f17, f21]
        have hz : ¬ 9223372036854775807 < X2.size + NU.size := by omega
        go_simp
        refine hK _ _ ⟨upd u 40 (.string X3), ?_, ST.out _ _ (by first | exact Below.refl _ _ | exact (Below.refl _ _).drew) (rfl)⟩
        simp [upd, f17, f21, K3.out]
      · cases ho
        refine wpOp_step rfl (fun K hK => ?_)
        go_simp
        refine hK _ _ ⟨upd u 41 (.pointer (some ⟨w.heap.size, 6, none⟩)), ?_, ST.out _ _ (Below.refl _ _) (rfl)⟩
        simp [upd]
      · cases ho
        have f23 : u 41 = .pointer (some ⟨w.heap.size, 6, none⟩) := hF 23 (by decide) (hall ⟨23, .data⟩ (by simp) rfl)
        refine wpOp_step rfl (fun K hK => ?_)
        simp only [f23]
        go_simp
        refine hK _ _ ⟨upd u 42 (.string N), ?_, ST.out _ _ (Below.refl _ _) (rfl)⟩
        simp [upd, f23]
      · cases ho
        have f22 : u 40 = .string X3 := hF 22 (by decide) (hall ⟨22, .data⟩ (by simp) rfl)
        have f24 : u 42 = .string N := hF 24 (by decide) (hall ⟨24, .data⟩ (by simp) rfl)
        refine wpOp_step rfl (fun K hK => ?_)
        simp only [f22, f24]
        have hz : ¬ 9223372036854775807 < X3.size + N.size := by omega
        go_simp
        refine hK _ _ ⟨upd u 43 (.string X4), ?_, ST.out _ _ (by first | exact Below.refl _ _ | exact (Below.refl _ _).drew) (rfl)⟩
        simp [upd, f22, f24, K4.out]
      · cases ho
        refine wpOp_step rfl (fun K hK => ?_)
        go_simp
        refine hK _ _ ⟨upd u 44 (.string U), ?_, ST.out _ _ (Below.refl _ _) (rfl)⟩
        simp [upd]
      · cases ho
        have f25 : u 43 = .string X4 := hF 25 (by decide) (hall ⟨25, .data⟩ (by simp) rfl)
        have f26 : u 44 = .string U := hF 26 (by decide) (hall ⟨26, .data⟩ (by simp) rfl)
        refine wpOp_step rfl (fun K hK => ?_)
        simp only [f25, f26]
        have hz : ¬ 9223372036854775807 < X4.size + U.size := by omega
        go_simp
        refine hK _ _ ⟨upd u 45 (.string X5), ?_, ST.out _ _ (by first | exact Below.refl _ _ | exact (Below.refl _ _).drew) (rfl)⟩
        simp [upd, f25, f26, K5.out]
      · cases ho
        refine wpOp_step rfl (fun K hK => ?_)
        go_simp
        refine hK _ _ ⟨upd u 46 (.slice (some ⟨wq.heap.size, 0, none⟩) 2 2), ?_, ST.out _ _ ((Below.refl _ _).alloc (Nat.le_refl _) _) (Own.made wq w2.heap.size [255, 217] hb.size (by simp))⟩
        simp [upd]
      · cases ho
        have f28 : Own wq w2.heap.size 5 .u8 (u 46) [255, 217] := hF 28 (by decide) (hall ⟨28, .data⟩ (by simp) rfl)
        refine wpOp_step rfl (fun K hK => ?_)
        have hc := Own.conv Try.underlying62 Try.underlying5 Try.underlying9 f28
        rw [KB.out] at hc
        go_simp
        refine hK _ _ ⟨upd u 47 (.string EB), ?_, ST.out _ _ (by first | exact Below.refl _ _ | exact (Below.refl _ _).drew) (rfl)⟩
        simp [upd]
      · cases ho
        have f27 : u 45 = .string X5 := hF 27 (by decide) (hall ⟨27, .data⟩ (by simp) rfl)
        have f29 : u 47 = .string EB := hF 29 (by decide) (hall ⟨29, .data⟩ (by simp) rfl)
        refine wpOp_step rfl (fun K hK => ?_)
        simp only [f27, f29]
        have hz : ¬ 9223372036854775807 < X5.size + EB.size := by omega
        go_simp
        refine hK _ _ ⟨upd u 48 (.string X6), ?_, ST.out _ _ (by first | exact Below.refl _ _ | exact (Below.refl _ _).drew) (rfl)⟩
        simp [upd, f27, f29, K6.out]
      · cases ho
        have f30 : u 48 = .string X6 := hF 30 (by decide) (hall ⟨30, .data⟩ (by simp) rfl)
        refine wpOp_step rfl (fun K hK => ?_)
        simp only [f30]
        go_simp
        refine hK _ _ ⟨upd u 6 (.string X6), ?_, ST.out _ _ (Below.refl _ _) (rfl)⟩
        simp [upd, f30]
  case rest =>
    obtain ⟨rfl, hb3⟩ := hcut
    have B3 := hid (B2.out.trans (hb3.mono B2.out.size))
    clear hb3 q0 q1 q2 q3 q4 q5 q6 q7
    by_cases hz : (60000 : Int) < (FULL.size : Int)
    · go_wp2_with fail
      go_ret2
      exact ⟨rfl, B3.out⟩
    · go_wp2_with fail
      go_ret2
      exact ⟨rfl, B3.out⟩

set_option maxRecDepth 100000 in
set_option maxHeartbeats 800000 in
theorem spec_write_no (v : Value) (p : Pk) (w : World) (hf : p.Fits) (hv : PV w v p) (U : ByteArray) (F : Bool) (hok : (p.ok && F) = false)
    (hs : ∀ v ao cap w, TV w v p.T.cs p.T.ss p.T.ct p.T.st → BRow w ao p.L → Calls Try.prog 29 #[v, .slice ao p.L.length cap] w fun e w' => e = .returned (.tuple #[.string U, .bool F]) ∧ Below w.heap.size w w') :
    Calls Try.prog 22 #[v] w fun e w' => e = .returned (.tuple #[.string ⟨#[]⟩, .bool false]) ∧ Below w.heap.size w w' := by
  have HOK := hid (fun q (hq : Below w.heap.size w q) => spec_picOk v p q hf (hv.below hq) U F hs)
  rw [hok] at HOK
  obtain ⟨a0, c0, a1, c1, a2, c2, a3, c3, ao, cap, rfl, ht, hb⟩ := hv
  have HB := hid ((Below.refl w.heap.size w).alloc (Nat.le_refl _) (.cells #[.int .i64 p.W, .int .i64 p.H, .slice a0 p.T.cs.length c0, .slice a1 p.T.ss.length c1, .slice a2 p.T.ct.length c2, .slice a3 p.T.st.length c3, .string p.N, .slice ao p.L.length cap] 37))
  clear hs ht hb hf hok
  go_enter Try.func22, Try.ntmps22
  go_wp2_with fail
  refine (HOK.out _ HB.out).mono ?_
  rintro e w1 ⟨rfl, hb1⟩
  have B1 := hid (HB.out.trans (hb1.mono HB.out.size))
  clear hb1
  go_wp2_with fail
  go_ret2
  exact ⟨rfl, B1.out⟩
end Go.Proofs.Ytflfgdgkpmlhnaa
