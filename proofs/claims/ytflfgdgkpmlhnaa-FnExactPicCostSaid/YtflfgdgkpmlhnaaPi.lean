/- The contract of the program's PicWrite. -/
import Derived.Test.YtflfgdgkpmlhnaaPs
import Derived.Test.YtflfgdgkpmlhnaaJn
namespace Go.Proofs.Ytflfgdgkpmlhnaa
open Go.RowKit Go.Maps
set_option linter.unusedVariables false

theorem Own.madeI (w : World) (base : Nat) (xs : List Int) (hb : base ≤ w.heap.size) (hl : xs.length ≤ 1000) : Own (w.alloc (.cells (xs.map (Value.int .i64)).toArray 3)) base 3 .i64 (.slice (some ⟨w.heap.size, 0, none⟩) xs.length xs.length) xs :=
  ⟨Nat.le_trans hb (by simp), by simp, .inr ⟨w.heap.size, xs.length, _, rfl, hb, heap_alloc_new w _, Nat.le_refl _, by unfold maxLen; omega, by simp, by simpa using List.take_of_length_le (by simp)⟩⟩

/-- What each operation of the program's call of Join leaves. -/
def VI (B M : Nat) (W H : Int) (s0 s1 s2 s3 : Value) (N P0 P1 NU A S FS : ByteArray) : Nat → Value → World → Prop
  | 0, v, _ => v = .string S
  | 1, v, _ => v = .pointer (some ⟨B, 0, none⟩)
  | 2, v, _ => v = .int .i64 W
  | 3, v, _ => v = .pointer (some ⟨B, 1, none⟩)
  | 4, v, _ => v = .int .i64 H
  | 5, v, w => Own w M 3 .i64 v [W, H]
  | 6, v, _ => v = .string A
  | 7, v, _ => v = .pointer (some ⟨B, 2, none⟩)
  | 8, v, _ => v = .pointer (some ⟨B, 2, none⟩)
  | 9, v, _ => v = .agg #[s0, s1]
  | 10, v, _ => v = .string P0
  | 11, v, _ => v = .pointer (some ⟨B, 2, none⟩)
  | 12, v, _ => v = .pointer (some ⟨B, 4, none⟩)
  | 13, v, _ => v = .agg #[s2, s3]
  | 14, v, _ => v = .string P1
  | 15, v, _ => v = .pointer (some ⟨B, 6, none⟩)
  | 16, v, _ => v = .string N
  | 17, v, _ => v = .int .i64 N.size
  | 18, v, _ => v = .string NU
  | 19, v, _ => v = .pointer (some ⟨B, 6, none⟩)
  | 20, v, _ => v = .string N
  | 21, v, w => ∃ g, v = .slice (some ⟨g, 0, none⟩) 6 6 ∧ w.heap[g]? = some (.cells ([S, A, P0, P1, NU, N].map Value.string).toArray 9 (0, 0))
  | 22, v, _ => v = .string FS
  | 23, v, _ => v = .string FS
  | _, _, _ => True
theorem VI.mono {B M : Nat} {W H : Int} {s0 s1 s2 s3 : Value} {N P0 P1 NU A S FS : ByteArray} {w w' : World} (hb : Below w.heap.size w w') : ∀ j x, VI B M W H s0 s1 s2 s3 N P0 P1 NU A S FS j x w → VI B M W H s0 s1 s2 s3 N P0 P1 NU A S FS j x w' := by
  intro j x h
  unfold VI at h
  split at h
  all_goals first
    | exact Own.below h hb
    | exact h
    | (obtain ⟨g, h1, h2⟩ := h; exact ⟨g, h1, (hb.block g (Array.getElem?_eq_some_iff.1 h2).1).trans h2⟩)
    | skip
  all_goals
    unfold VI
    split <;> first | trivial | omega
def DI (j : Nat) : Nat := if j = 23 then 4 else j + 5
theorem DI_ne (i j : Nat) (hi : i < 24) (hj : j < 24) (h : j ≠ i) : DI j ≠ DI i := by
  unfold DI
  split <;> split <;> omega
/-- What stands ahead of the blocks of a picture. -/
def frameS (S : ByteArray) (p : Pk) : ByteArray := catS [S, strOfNums [p.W, p.H], codesS p.T.cs p.T.ss, codesS p.T.ct p.T.st, strOfNums (nb p.N.size p.N.size), p.N]
theorem frame_file (p : Pk) (U : ByteArray) : frameS ⟨#[255, 216]⟩ p ++ U ++ ⟨#[255, 217]⟩ = fileS p U := by
  unfold frameS fileS
  apply ByteArray.ext
  simp only [catS, ByteArray.data_append, strOfNums, Array.append_assoc, Array.append_empty]
  rw [← Array.append_assoc]
  rfl

set_option maxRecDepth 100000 in
set_option maxHeartbeats 1600000 in
theorem impl_frame (S : ByteArray) (v : Value) (p : Pk) (w : World) (hS : S.size ≤ 1000) (hf : p.Fits) (hv : PV w v p) (hok : p.ok = true) :
    Calls Try.prog 48 #[.string S, v] w fun e w' => e = .returned (.string (frameS S p)) ∧ Below w.heap.size w w' := by
  have hk : (1 ≤ p.W ∧ p.W ≤ 40) ∧ (1 ≤ p.H ∧ p.H ≤ 40) ∧ (p.N.size : Int) ≤ 500 ∧ (p.L.length : Int) = p.W * p.H := by
    unfold Pk.ok at hok
    exact of_decide_eq_true hok
  obtain ⟨a0, c0, a1, c1, a2, c2, a3, c3, ao, cap, rfl, ht, hb⟩ := hv
  have HP0 := hid (fun q (hq : Below w.heap.size w q) => show Calls Try.prog 16 #[.agg #[.slice a0 p.T.cs.length c0, .slice a1 p.T.ss.length c1]] q fun e w' => e = .returned (.string (codesS p.T.cs p.T.ss)) ∧ Below q.heap.size q w' from impl_putCodes (.agg #[.slice a0 p.T.cs.length c0, .slice a1 p.T.ss.length c1]) p.T.cs p.T.ss q hf.h0 hf.h1 (by obtain ⟨_, _, _, _, _, _, _, _, e, h1, _⟩ := ht.below hq; cases e; exact h1))
  have HP1 := hid (fun q (hq : Below w.heap.size w q) => show Calls Try.prog 16 #[.agg #[.slice a2 p.T.ct.length c2, .slice a3 p.T.st.length c3]] q fun e w' => e = .returned (.string (codesS p.T.ct p.T.st)) ∧ Below q.heap.size q w' from impl_putCodes (.agg #[.slice a2 p.T.ct.length c2, .slice a3 p.T.st.length c3]) p.T.ct p.T.st q hf.h2 hf.h3 (by obtain ⟨_, _, _, _, _, _, _, _, e, _, h1⟩ := ht.below hq; cases e; exact h1))
  have HNU := hid (fun q => show Calls Try.prog 60 #[.int .i64 (p.N.size : Int)] q fun e w' => e = .returned (.string (strOfNums (nb p.N.size p.N.size))) ∧ Below q.heap.size q w' from impl_putNum (p.N.size : Int) q (by omega) (by omega))
  have HBO := hid (fun q yo yc hvw => impl_bytesOf yo yc [p.W, p.H] q (by simp) hvw (by
    intro j hj
    match j, hj with
    | 0, _ => exact ⟨by show (0 : Int) ≤ p.W; omega, by show p.W ≤ 255; omega⟩
    | 1, _ => exact ⟨by show (0 : Int) ≤ p.H; omega, by show p.H ≤ 255; omega⟩))
  have y0 := codesS_size p.T.cs p.T.ss hf.h0 hf.h1
  have y1 := codesS_size p.T.ct p.T.st hf.h2 hf.h3
  have y2 : (strOfNums (nb p.N.size p.N.size)).size ≤ 1000 := by rw [strOfNums_size]; exact nb_len _ _ (by omega)
  have y3 : p.N.size ≤ 500 := by omega
  have y4 : (strOfNums [p.W, p.H]).size ≤ 2 := by rw [strOfNums_size]; simp
  have HFS := hid (show frameS S p = catS [S, strOfNums [p.W, p.H], codesS p.T.cs p.T.ss, codesS p.T.ct p.T.st, strOfNums (nb p.N.size p.N.size), p.N] from rfl)
  generalize frameS S p = FS at *
  generalize codesS p.T.cs p.T.ss = P0 at *
  generalize codesS p.T.ct p.T.st = P1 at *
  generalize strOfNums (nb p.N.size p.N.size) = NU at *
  generalize strOfNums [p.W, p.H] = A at *
  have HJN : Hid (∀ (q : World) (g : Nat), q.heap[g]? = some (.cells ([S, A, P0, P1, NU, p.N].map Value.string).toArray 9 (0, 0)) → Calls Try.prog 59 #[.slice (some ⟨g, 0, none⟩) 6 6, .string ⟨#[]⟩] q fun e w' => e = .returned (.string FS) ∧ Below q.heap.size q w') := fun q g hg => by
    rw [HFS.out]
    refine join_any g 6 [S, A, P0, P1, NU, p.N] q (fun j x hx => ?_) (Array.getElem?_eq_some_iff.1 hg).1 (by simp) (by simp) ?_
    · rw [Nat.zero_add, cell_of_row q g j _ 9 (0, 0) hg]
      rw [List.getElem?_toArray, List.getElem?_map, hx]
      rfl
    · rw [catS_size]
      simp only [List.map_cons, List.map_nil, List.sum_cons, List.sum_nil]
      omega
  clear ht hb hf hok
  generalize p.W = W at *
  generalize p.H = H at *
  generalize p.N = N at *
  generalize p.T.cs = cs at *
  generalize p.T.ss = ss at *
  generalize p.T.ct = ct at *
  generalize p.T.st = st at *
  generalize p.L = L at *
  have HB := hid ((Below.refl w.heap.size w).alloc (Nat.le_refl _) (.cells #[.int .i64 W, .int .i64 H, .slice a0 cs.length c0, .slice a1 ss.length c1, .slice a2 ct.length c2, .slice a3 st.length c3, .string N, .slice ao L.length cap] 37))
  have HE := hid (Eig.new w (.int .i64 W) (.int .i64 H) (.slice a0 cs.length c0) (.slice a1 ss.length c1) (.slice a2 ct.length c2) (.slice a3 st.length c3) (.string N) (.slice ao L.length cap) 37)
  go_enter Try.func48, Try.ntmps48
  go_wp2_with fail
  generalize w.alloc (.cells #[.int .i64 W, .int .i64 H, .slice a0 cs.length c0, .slice a1 ss.length c1, .slice a2 ct.length c2, .slice a3 st.length c3, .string N, .slice ao L.length cap] 37) = wa at *
  have hlt : w.heap.size < wa.heap.size := HE.out.lt
  refine wp_region_any (by kernel_rfl) ?_
  refine wpAny_inv (fun listed a wq => ∃ u : Nat → Value, a = { tmps := #[.string S, .agg #[.int .i64 W, .int .i64 H, .slice a0 cs.length c0, .slice a1 ss.length c1, .slice a2 ct.length c2, .slice a3 st.length c3, .string N, .slice ao L.length cap], undef, .pointer (some ⟨w.heap.size, 0, none⟩), u 4, u 5, u 6, u 7, u 8, u 9, u 10, u 11, u 12, u 13, u 14, u 15, u 16, u 17, u 18, u 19, u 20, u 21, u 22, u 23, u 24, u 25, u 26, u 27], defers := [] } ∧ Below wa.heap.size wa wq ∧ Facts 24 (VI w.heap.size wa.heap.size W H (.slice a0 cs.length c0) (.slice a1 ss.length c1) (.slice a2 ct.length c2) (.slice a3 st.length c3) N P0 P1 NU A S FS) DI listed u wq) ?hpre ?hstep ?hend _ _ _ _ rfl (by decide) ⟨fun k => if k = 4 then .string ⟨#[]⟩ else undef, rfl, (Below.refl _ _).drew, fun j hj hl => absurd hl (by simp [Array.getD])⟩
  case hpre => exact pre_of (by kernel_rfl)
  case hend =>
    rintro listed a wq hall ⟨u, rfl, hb, hF⟩
    have h6 : u 4 = .string FS := hF 23 (by decide) (hall 23 (by decide))
    go_wp2_with fail
    rw [h6]
    go_ret
    exact ⟨rfl, HB.out.trans (hb.mono HB.out.size)⟩
  case hstep =>
    rintro listed a wq i o hsz ⟨u, rfl, hb, hF⟩ ho hall
    obtain ⟨q0, q1, q2, q3, q4, q5, q6, q7⟩ := (HE.out.below hb hlt).cells
    have hi : i < 24 := (Array.getElem?_eq_some_iff.1 ho).1
    have ST : Hid (∀ (wz : World) (v : Value), Below wq.heap.size wq wz → VI w.heap.size wa.heap.size W H (.slice a0 cs.length c0) (.slice a1 ss.length c1) (.slice a2 ct.length c2) (.slice a3 st.length c3) N P0 P1 NU A S FS i v wz → Below wa.heap.size wa wz ∧ Facts 24 (VI w.heap.size wa.heap.size W H (.slice a0 cs.length c0) (.slice a1 ss.length c1) (.slice a2 ct.length c2) (.slice a3 st.length c3) N P0 P1 NU A S FS) DI (listed.setIfInBounds i true) (upd u (DI i) v) wz) := fun wz v hbz hv => ⟨hb.trans (hbz.mono hb.size), hF.step i v (fun j hj hne => DI_ne i j hi hj hne) (fun j x _ => VI.mono hbz j x) hv⟩
    obtain rfl | rfl | rfl | rfl | rfl | rfl | rfl | rfl | rfl | rfl | rfl | rfl | rfl | rfl | rfl | rfl | rfl | rfl | rfl | rfl | rfl | rfl | rfl | rfl : i = 0 ∨ i = 1 ∨ i = 2 ∨ i = 3 ∨ i = 4 ∨ i = 5 ∨ i = 6 ∨ i = 7 ∨ i = 8 ∨ i = 9 ∨ i = 10 ∨ i = 11 ∨ i = 12 ∨ i = 13 ∨ i = 14 ∨ i = 15 ∨ i = 16 ∨ i = 17 ∨ i = 18 ∨ i = 19 ∨ i = 20 ∨ i = 21 ∨ i = 22 ∨ i = 23 := by omega
    · cases ho
      refine wpOp_step rfl (fun K hK => ?_)
      go_simp
      refine hK _ _ ⟨upd u 5 (.string S), ?_, ST.out _ _ (Below.refl _ _) (rfl)⟩
      simp [upd]
    · cases ho
      refine wpOp_step rfl (fun K hK => ?_)
      go_simp
      refine hK _ _ ⟨upd u 6 (.pointer (some ⟨w.heap.size, 0, none⟩)), ?_, ST.out _ _ (Below.refl _ _) (rfl)⟩
      simp [upd]
    · cases ho
      have f1 : u 6 = .pointer (some ⟨w.heap.size, 0, none⟩) := hF 1 (by decide) (hall ⟨1, .data⟩ (by simp) rfl)
      refine wpOp_step rfl (fun K hK => ?_)
      simp only [f1]
      go_simp
      refine hK _ _ ⟨upd u 7 (.int .i64 W), ?_, ST.out _ _ (Below.refl _ _) (rfl)⟩
      simp [upd, f1]
    · cases ho
      refine wpOp_step rfl (fun K hK => ?_)
      go_simp
      refine hK _ _ ⟨upd u 8 (.pointer (some ⟨w.heap.size, 1, none⟩)), ?_, ST.out _ _ (Below.refl _ _) (rfl)⟩
      simp [upd]
    · cases ho
      have f3 : u 8 = .pointer (some ⟨w.heap.size, 1, none⟩) := hF 3 (by decide) (hall ⟨3, .data⟩ (by simp) rfl)
      refine wpOp_step rfl (fun K hK => ?_)
      simp only [f3]
      go_simp
      refine hK _ _ ⟨upd u 9 (.int .i64 H), ?_, ST.out _ _ (Below.refl _ _) (rfl)⟩
      simp [upd, f3]
    · cases ho
      have f2 : u 7 = .int .i64 W := hF 2 (by decide) (hall ⟨2, .data⟩ (by simp) rfl)
      have f4 : u 9 = .int .i64 H := hF 4 (by decide) (hall ⟨4, .data⟩ (by simp) rfl)
      refine wpOp_step rfl (fun K hK => ?_)
      simp only [f2, f4]
      go_simp
      refine hK _ _ ⟨upd u 10 (.slice (some ⟨wq.heap.size, 0, none⟩) 2 2), ?_, ST.out _ _ ((Below.refl _ _).alloc (Nat.le_refl _) _) (Own.madeI wq wa.heap.size [W, H] hb.size (by simp))⟩
      simp [upd, f2, f4]
    · cases ho
      have f5 : Own wq wa.heap.size 3 .i64 (u 10) [W, H] := hF 5 (by decide) (hall ⟨5, .data⟩ (by simp) rfl)
      obtain ⟨yo, yc, f5e, hvw⟩ := f5.view
      have f5s : u 10 = .slice yo 2 yc := f5e
      refine wpOp_step rfl (fun K hK => ?_)
      simp only [f5s]
      go_simp
      go_wp2_with (go_at_call 39; refine (HBO.out wq yo yc hvw).mono ?_; rintro e wz ⟨rfl, hbz⟩)
      first | refine hK _ _ ⟨upd u 11 (.string A), ?_, ST.out _ _ hbz rfl⟩ | refine ⟨upd u 11 (.string A), ?_, ST.out _ _ hbz rfl⟩
      simp [upd, f5s]
    · cases ho
      refine wpOp_step rfl (fun K hK => ?_)
      go_simp
      refine hK _ _ ⟨upd u 12 (.pointer (some ⟨w.heap.size, 2, none⟩)), ?_, ST.out _ _ (Below.refl _ _) (rfl)⟩
      simp [upd]
    · cases ho
      have f7 : u 12 = .pointer (some ⟨w.heap.size, 2, none⟩) := hF 7 (by decide) (hall ⟨7, .data⟩ (by simp) rfl)
      refine wpOp_step rfl (fun K hK => ?_)
      simp only [f7]
      go_simp
      refine hK _ _ ⟨upd u 13 (.pointer (some ⟨w.heap.size, 2, none⟩)), ?_, ST.out _ _ (Below.refl _ _) (rfl)⟩
      simp [upd, f7]
    · cases ho
      have f8 : u 13 = .pointer (some ⟨w.heap.size, 2, none⟩) := hF 8 (by decide) (hall ⟨8, .data⟩ (by simp) rfl)
      refine wpOp_step rfl (fun K hK => ?_)
      simp only [f8]
      go_simp
      refine hK _ _ ⟨upd u 14 (.agg #[.slice a0 cs.length c0, .slice a1 ss.length c1]), ?_, ST.out _ _ (Below.refl _ _) (rfl)⟩
      simp [upd, f8]
    · cases ho
      have f9 : u 14 = .agg #[.slice a0 cs.length c0, .slice a1 ss.length c1] := hF 9 (by decide) (hall ⟨9, .data⟩ (by simp) rfl)
      refine wpOp_step rfl (fun K hK => ?_)
      simp only [f9]
      go_simp
      go_wp2_with (go_at_call 16; refine (HP0.out wq (HB.out.trans (hb.mono HB.out.size))).mono ?_; rintro e wz ⟨rfl, hbz⟩)
      first | refine hK _ _ ⟨upd u 15 (.string P0), ?_, ST.out _ _ hbz rfl⟩ | refine ⟨upd u 15 (.string P0), ?_, ST.out _ _ hbz rfl⟩
      simp [upd, f9]
    · cases ho
      refine wpOp_step rfl (fun K hK => ?_)
      go_simp
      refine hK _ _ ⟨upd u 16 (.pointer (some ⟨w.heap.size, 2, none⟩)), ?_, ST.out _ _ (Below.refl _ _) (rfl)⟩
      simp [upd]
    · cases ho
      have f11 : u 16 = .pointer (some ⟨w.heap.size, 2, none⟩) := hF 11 (by decide) (hall ⟨11, .data⟩ (by simp) rfl)
      refine wpOp_step rfl (fun K hK => ?_)
      simp only [f11]
      go_simp
      refine hK _ _ ⟨upd u 17 (.pointer (some ⟨w.heap.size, 4, none⟩)), ?_, ST.out _ _ (Below.refl _ _) (rfl)⟩
      simp [upd, f11]
    · cases ho
      have f12 : u 17 = .pointer (some ⟨w.heap.size, 4, none⟩) := hF 12 (by decide) (hall ⟨12, .data⟩ (by simp) rfl)
      refine wpOp_step rfl (fun K hK => ?_)
      simp only [f12]
      go_simp
      refine hK _ _ ⟨upd u 18 (.agg #[.slice a2 ct.length c2, .slice a3 st.length c3]), ?_, ST.out _ _ (Below.refl _ _) (rfl)⟩
      simp [upd, f12]
    · cases ho
      have f13 : u 18 = .agg #[.slice a2 ct.length c2, .slice a3 st.length c3] := hF 13 (by decide) (hall ⟨13, .data⟩ (by simp) rfl)
      refine wpOp_step rfl (fun K hK => ?_)
      simp only [f13]
      go_simp
      go_wp2_with (go_at_call 16; refine (HP1.out wq (HB.out.trans (hb.mono HB.out.size))).mono ?_; rintro e wz ⟨rfl, hbz⟩)
      first | refine hK _ _ ⟨upd u 19 (.string P1), ?_, ST.out _ _ hbz rfl⟩ | refine ⟨upd u 19 (.string P1), ?_, ST.out _ _ hbz rfl⟩
      simp [upd, f13]
    · cases ho
      refine wpOp_step rfl (fun K hK => ?_)
      go_simp
      refine hK _ _ ⟨upd u 20 (.pointer (some ⟨w.heap.size, 6, none⟩)), ?_, ST.out _ _ (Below.refl _ _) (rfl)⟩
      simp [upd]
    · cases ho
      have f15 : u 20 = .pointer (some ⟨w.heap.size, 6, none⟩) := hF 15 (by decide) (hall ⟨15, .data⟩ (by simp) rfl)
      refine wpOp_step rfl (fun K hK => ?_)
      simp only [f15]
      go_simp
      refine hK _ _ ⟨upd u 21 (.string N), ?_, ST.out _ _ (Below.refl _ _) (rfl)⟩
      simp [upd, f15]
    · cases ho
      have f16 : u 21 = .string N := hF 16 (by decide) (hall ⟨16, .data⟩ (by simp) rfl)
      refine wpOp_step rfl (fun K hK => ?_)
      simp only [f16]
      go_simp
      refine hK _ _ ⟨upd u 22 (.int .i64 N.size), ?_, ST.out _ _ (Below.refl _ _) (rfl)⟩
      simp [upd, f16]
    · cases ho
      have f17 : u 22 = .int .i64 N.size := hF 17 (by decide) (hall ⟨17, .data⟩ (by simp) rfl)
      refine wpOp_step rfl (fun K hK => ?_)
      simp only [f17]
      go_simp
      go_wp2_with (go_at_call 60; refine (HNU.out wq).mono ?_; rintro e wz ⟨rfl, hbz⟩)
      first | refine hK _ _ ⟨upd u 23 (.string NU), ?_, ST.out _ _ hbz rfl⟩ | refine ⟨upd u 23 (.string NU), ?_, ST.out _ _ hbz rfl⟩
      simp [upd, f17]
    · cases ho
      refine wpOp_step rfl (fun K hK => ?_)
      go_simp
      refine hK _ _ ⟨upd u 24 (.pointer (some ⟨w.heap.size, 6, none⟩)), ?_, ST.out _ _ (Below.refl _ _) (rfl)⟩
      simp [upd]
    · cases ho
      have f19 : u 24 = .pointer (some ⟨w.heap.size, 6, none⟩) := hF 19 (by decide) (hall ⟨19, .data⟩ (by simp) rfl)
      refine wpOp_step rfl (fun K hK => ?_)
      simp only [f19]
      go_simp
      refine hK _ _ ⟨upd u 25 (.string N), ?_, ST.out _ _ (Below.refl _ _) (rfl)⟩
      simp [upd, f19]
    · cases ho
      have f0 : u 5 = .string S := hF 0 (by decide) (hall ⟨0, .data⟩ (by simp) rfl)
      have f6 : u 11 = .string A := hF 6 (by decide) (hall ⟨6, .data⟩ (by simp) rfl)
      have f10 : u 15 = .string P0 := hF 10 (by decide) (hall ⟨10, .data⟩ (by simp) rfl)
      have f14 : u 19 = .string P1 := hF 14 (by decide) (hall ⟨14, .data⟩ (by simp) rfl)
      have f18 : u 23 = .string NU := hF 18 (by decide) (hall ⟨18, .data⟩ (by simp) rfl)
      have f20 : u 25 = .string N := hF 20 (by decide) (hall ⟨20, .data⟩ (by simp) rfl)
      refine wpOp_step rfl (fun K hK => ?_)
      simp only [f0, f6, f10, f14, f18, f20]
      go_simp
      refine hK _ _ ⟨upd u 26 (.slice (some ⟨wq.heap.size, 0, none⟩) 6 6), ?_, ST.out _ _ ((Below.refl _ _).alloc (Nat.le_refl _) _) (⟨_, rfl, heap_alloc_new wq _⟩)⟩
      simp [upd, f0, f6, f10, f14, f18, f20]
    · cases ho
      obtain ⟨g, f21, hg⟩ : ∃ g, u 26 = .slice (some ⟨g, 0, none⟩) 6 6 ∧ wq.heap[g]? = some (.cells ([S, A, P0, P1, NU, N].map Value.string).toArray 9 (0, 0)) := hF 21 (by decide) (hall ⟨21, .data⟩ (by simp) rfl)
      refine wpOp_step rfl (fun K hK => ?_)
      simp only [f21]
      go_simp
      go_wp2_with (go_at_call 59; refine (HJN.out wq g hg).mono ?_; rintro e wz ⟨rfl, hbz⟩)
      first | refine hK _ _ ⟨upd u 27 (.string FS), ?_, ST.out _ _ hbz rfl⟩ | refine ⟨upd u 27 (.string FS), ?_, ST.out _ _ hbz rfl⟩
      simp [upd, f21]
    · cases ho
      have f22 : u 27 = .string FS := hF 22 (by decide) (hall ⟨22, .data⟩ (by simp) rfl)
      refine wpOp_step rfl (fun K hK => ?_)
      simp only [f22]
      go_simp
      refine hK _ _ ⟨upd u 4 (.string FS), ?_, ST.out _ _ (Below.refl _ _) (rfl)⟩
      simp [upd, f22]

set_option maxRecDepth 100000 in
set_option maxHeartbeats 1600000 in
theorem impl_write_yes (v : Value) (p : Pk) (w : World) (hf : p.Fits) (hv : PV w v p) (U : ByteArray) (hok : p.ok = true) (hU : U.size ≤ 1000000)
    (hs : ∀ v ao cap w, TV w v p.T.cs p.T.ss p.T.ct p.T.st → BRow w ao p.L → Calls Try.prog 55 #[v, .slice ao p.L.length cap] w fun e w' => e = .returned (.tuple #[.string U, .bool true]) ∧ Below w.heap.size w w') :
    Calls Try.prog 23 #[v] w fun e w' => e = .returned (if (fileS p U).size ≤ 60000 then .tuple #[.string (fileS p U), .bool true] else .tuple #[.string ⟨#[]⟩, .bool false]) ∧ Below w.heap.size w w' := by
  have HOK := hid (fun q (hq : Below w.heap.size w q) => picScan_any v p q hf (hv.below hq) U true hs)
  rw [if_pos hok] at HOK
  have HFR := hid (fun q (hq : Below w.heap.size w q) => impl_frame ⟨#[255, 216]⟩ v p q (by decide) hf (hv.below hq) hok)
  have hk : (1 ≤ p.W ∧ p.W ≤ 40) ∧ (1 ≤ p.H ∧ p.H ≤ 40) ∧ (p.N.size : Int) ≤ 500 ∧ (p.L.length : Int) = p.W * p.H := by
    unfold Pk.ok at hok
    exact of_decide_eq_true hok
  have y0 := codesS_size p.T.cs p.T.ss hf.h0 hf.h1
  have y1 := codesS_size p.T.ct p.T.st hf.h2 hf.h3
  have y2 : (strOfNums (nb p.N.size p.N.size)).size ≤ 1000 := by rw [strOfNums_size]; exact nb_len _ _ (by omega)
  have y3 : p.N.size ≤ 500 := by omega
  have y4 : (strOfNums [p.W, p.H]).size ≤ 2 := by rw [strOfNums_size]; simp
  have hFR : (frameS ⟨#[255, 216]⟩ p).size ≤ 140737488355328 := by
    unfold frameS
    rw [catS_size]
    simp only [List.map_cons, List.map_nil, List.sum_cons, List.sum_nil]
    have e1 : (⟨#[255, 216]⟩ : ByteArray).size = 2 := rfl
    omega
  clear y0 y1 y2 y3 y4 hk
  have HFS := hid (frame_file p U)
  generalize frameS ⟨#[255, 216]⟩ p = FR at *
  generalize fileS p U = FS at *
  obtain ⟨a0, c0, a1, c1, a2, c2, a3, c3, ao, cap, rfl, ht, hb⟩ := hv
  clear hs ht hb hf hok
  generalize p.W = W at *
  generalize p.H = H at *
  generalize p.N = N at *
  generalize p.T.cs = cs at *
  generalize p.T.ss = ss at *
  generalize p.T.ct = ct at *
  generalize p.T.st = st at *
  generalize p.L = L at *
  have HB := hid ((Below.refl w.heap.size w).alloc (Nat.le_refl _) (.cells #[.int .i64 W, .int .i64 H, .slice a0 cs.length c0, .slice a1 ss.length c1, .slice a2 ct.length c2, .slice a3 st.length c3, .string N, .slice ao L.length cap] 37))
  have HE := hid (Eig.new w (.int .i64 W) (.int .i64 H) (.slice a0 cs.length c0) (.slice a1 ss.length c1) (.slice a2 ct.length c2) (.slice a3 st.length c3) (.string N) (.slice ao L.length cap) 37)
  go_enter Try.func23, Try.ntmps23
  go_wp2_with fail
  refine (HOK.out _ HB.out).mono ?_
  generalize w.alloc (.cells #[.int .i64 W, .int .i64 H, .slice a0 cs.length c0, .slice a1 ss.length c1, .slice a2 ct.length c2, .slice a3 st.length c3, .string N, .slice ao L.length cap] 37) = wa at *
  rintro e w2 ⟨rfl, hb1⟩
  have B2 := hid (HB.out.trans (hb1.mono HB.out.size))
  have E2 := hid (HE.out.below hb1 HE.out.lt)
  obtain ⟨q0, q1, q2, q3, q4, q5, q6, q7⟩ := E2.out.cells
  clear hb1 HOK HB HE
  go_wp2_with fail
  refine (HFR.out w2 B2.out).mono ?_
  rintro e w3 ⟨rfl, hb3⟩
  have B3 := hid (B2.out.trans (hb3.mono B2.out.size))
  obtain ⟨X1, hc1⟩ : ∃ X1, FR ++ U = X1 := ⟨_, rfl⟩
  have hc2 := HFS.out
  have hn2 : ¬ 9223372036854775807 < X1.size + 2 := by rw [← hc1, ByteArray.size_append]; omega
  have hn1 : ¬ 9223372036854775807 < FR.size + U.size := by omega
  rw [hc1] at hc2
  clear hb3 q0 q1 q2 q3 q4 q5 q6 q7 HFR hU HFS hFR
  by_cases hz : FS.size ≤ 60000
  · have hd : decide ((60000 : Int) < (FS.size : Int)) = false := decide_eq_false (by omega)
    have HZ := hid hz
    clear hz
    go_wp2_with fail
    go_ret2
    exact ⟨rfl, B3.out⟩
  · have hd : decide ((60000 : Int) < (FS.size : Int)) = true := decide_eq_true (by omega)
    have HZ := hid hz
    clear hz
    go_wp2_with fail
    go_ret2
    exact ⟨rfl, B3.out⟩

set_option maxRecDepth 100000 in
set_option maxHeartbeats 800000 in
theorem impl_write_no (v : Value) (p : Pk) (w : World) (hf : p.Fits) (hv : PV w v p) (U : ByteArray) (F : Bool) (hok : (p.ok && F) = false)
    (hs : ∀ v ao cap w, TV w v p.T.cs p.T.ss p.T.ct p.T.st → BRow w ao p.L → Calls Try.prog 55 #[v, .slice ao p.L.length cap] w fun e w' => e = .returned (.tuple #[.string U, .bool F]) ∧ Below w.heap.size w w') :
    Calls Try.prog 23 #[v] w fun e w' => e = .returned (.tuple #[.string ⟨#[]⟩, .bool false]) ∧ Below w.heap.size w w' := by
  have HOK : Hid (∀ q, Below w.heap.size w q → ∃ X : ByteArray, Calls Try.prog 32 #[v] q fun e w' => e = .returned (.tuple #[.string X, .bool false]) ∧ Below q.heap.size q w') := fun q hq => by
    have h := picScan_any v p q hf (hv.below hq) U F hs
    cases hp : p.ok with
    | false => rw [hp, if_neg (by decide)] at h; exact ⟨_, h⟩
    | true =>
      rw [hp, Bool.true_and] at hok
      rw [hp, if_pos rfl, hok] at h
      exact ⟨_, h⟩
  obtain ⟨a0, c0, a1, c1, a2, c2, a3, c3, ao, cap, rfl, ht, hb⟩ := hv
  have HB := hid ((Below.refl w.heap.size w).alloc (Nat.le_refl _) (.cells #[.int .i64 p.W, .int .i64 p.H, .slice a0 p.T.cs.length c0, .slice a1 p.T.ss.length c1, .slice a2 p.T.ct.length c2, .slice a3 p.T.st.length c3, .string p.N, .slice ao p.L.length cap] 37))
  clear hs ht hb hf hok
  obtain ⟨X, hX⟩ := HOK.out _ HB.out
  have HX := hid hX
  clear hX HOK
  go_enter Try.func23, Try.ntmps23
  go_wp2_with fail
  refine HX.out.mono ?_
  rintro e w1 ⟨rfl, hb1⟩
  have B1 := hid (HB.out.trans (hb1.mono HB.out.size))
  clear hb1
  go_wp2_with fail
  go_ret2
  exact ⟨rfl, B1.out⟩
end Go.Proofs.Ytflfgdgkpmlhnaa
