/- codesOfLengths: plain, and of the program. -/
import Derived.Test.YtmdmolofiblbmaaBl
import Derived.Test.YtmdmolofiblbmaaCd
namespace Go.Proofs.Ytmdmolofiblbmaa
open Go.RowKit
set_option linter.unusedVariables false

/-- The symbols below k whose length is l. -/
def pickTo (ls : List Int) (l : Int) : Nat → List Int
  | 0 => []
  | k + 1 => if ls.getD k 0 = l then pickTo ls l k ++ [(k : Int)] else pickTo ls l k
theorem pickTo_len (ls : List Int) (l : Int) : ∀ k, (pickTo ls l k).length ≤ k
  | 0 => Nat.le_refl _
  | k + 1 => by
    have := pickTo_len ls l k
    rw [pickTo]
    split
    · simp; omega
    · omega
/-- The symbols of the first i lengths, and how many of each there are. -/
def symsTo (ls : List Int) : Nat → List Int
  | 0 => []
  | i + 1 => symsTo ls i ++ pickTo ls ((i : Int) + 1) 256
def cntsTo (ls : List Int) : Nat → List Int
  | 0 => []
  | i + 1 => cntsTo ls i ++ [((pickTo ls ((i : Int) + 1) 256).length : Int)]
theorem cntsTo_len (ls : List Int) : ∀ i, (cntsTo ls i).length = i
  | 0 => rfl
  | i + 1 => by rw [cntsTo, List.length_append, cntsTo_len ls i]; rfl
theorem symsTo_len (ls : List Int) : ∀ i, (symsTo ls i).length ≤ 256 * i
  | 0 => Nat.zero_le _
  | i + 1 => by
    have h1 := symsTo_len ls i
    have h2 := pickTo_len ls ((i : Int) + 1) 256
    rw [symsTo, List.length_append]
    omega

/-- The counts while those of length i + 1 are counted. -/
def cntD (ls : List Int) (i k : Nat) : List Int := (cntsTo ls i ++ [((pickTo ls ((i : Int) + 1) k).length : Int)]) ++ List.replicate (15 - i) 0
theorem cntD_len (ls : List Int) (i k : Nat) (h : i < 16) : (cntD ls i k).length = 16 := by
  unfold cntD
  rw [List.length_append, List.length_append, cntsTo_len, List.length_replicate, List.length_singleton]
  omega
theorem cntD_zero (ls : List Int) (i : Nat) (h : i < 16) : cntD ls i 0 = cntsTo ls i ++ List.replicate (16 - i) 0 := by
  unfold cntD
  have e : 16 - i = (15 - i) + 1 := by omega
  rw [List.append_assoc, e, List.replicate_succ]
  rfl
theorem cntD_last (ls : List Int) (i : Nat) : cntD ls i 256 = cntsTo ls (i + 1) ++ List.replicate (16 - (i + 1)) 0 := by
  unfold cntD
  have e : 16 - (i + 1) = 15 - i := by omega
  rw [e]
  rfl
theorem cntD_get (ls : List Int) (i k : Nat) (h : i < 16) : (cntD ls i k).getD i 0 = ((pickTo ls ((i : Int) + 1) k).length : Int) := by
  unfold cntD
  simp [List.getD, cntsTo_len]
theorem cntD_set (ls : List Int) (i k : Nat) (h : i < 16) (hp : ls.getD k 0 = (i : Int) + 1) : (cntD ls i k).set i (((pickTo ls ((i : Int) + 1) k).length : Int) + 1) = cntD ls i (k + 1) := by
  unfold cntD
  rw [pickTo, if_pos hp, List.length_append, List.length_singleton, List.set_append_left _ _ (by rw [List.length_append, cntsTo_len]; simp), List.set_append_right _ _ (by rw [cntsTo_len]; omega), cntsTo_len, Nat.sub_self]
  rfl
theorem cntD_same (ls : List Int) (i k : Nat) (hp : ¬ ls.getD k 0 = (i : Int) + 1) : cntD ls i (k + 1) = cntD ls i k := by
  unfold cntD
  rw [pickTo, if_neg hp]

theorem Own.ne26 {w : World} {base : Nat} {v : Value} {xs : List Int} {C : Nat} {x y : Value} (h : Own w base 3 .i64 v xs) (hz : Two w C x y 26) : v.ownBlock ≠ some C := by
  intro e
  rcases h.2.2 with ⟨hv, _⟩ | ⟨g, cap, cur, hv, _, hh, _⟩
  · subst hv; simp [Value.ownBlock] at e
  · subst hv
    have : g = C := by simpa [Value.ownBlock] using e
    subst this
    unfold Two at hz
    rw [hh] at hz
    have := Option.some.inj hz
    simp at this
/-- What stands while codes are laid out: the variable in block C, the counts' row in block D. -/
def Cst (w wr : World) (cs ss : List Int) : Prop := ∃ sv, Two wr (w.heap.size + 1 + 1 + 1) (.slice (some ⟨w.heap.size + 1, 0, none⟩) 16 16) sv 26 ∧ Own wr (w.heap.size + 1) 3 .i64 (.slice (some ⟨w.heap.size + 1, 0, none⟩) 16 16) cs ∧ Own wr (w.heap.size + 1 + 1) 3 .i64 sv ss ∧ Below w.heap.size w wr ∧ Two wr w.heap.size (.slice none 0 0) (.slice none 0 0) 26
theorem Cst.inc {w wr : World} {cs ss : List Int} (h : Cst w wr cs ss) (i : Nat) (x : Int) : Cst w (wr.setCell ⟨w.heap.size + 1, i, none⟩ (.int .i64 x)) (cs.set i x) ss := by
  obtain ⟨sv, h1, h2, h3, h4, h5⟩ := h
  exact ⟨sv, h1.other (by omega) _, h2.store i x, h3.setCell_below (a := ⟨w.heap.size + 1, i, none⟩) (by show w.heap.size + 1 < w.heap.size + 1 + 1; omega) _, h4.setCell (p := ⟨w.heap.size + 1, i, none⟩) (by show w.heap.size ≤ w.heap.size + 1; omega) _, h5.other (by omega) _⟩
theorem Cst.push {w wr w' : World} {cs ss : List Int} {sv v' : Value} {y : Int} (h1 : Two wr (w.heap.size + 1 + 1 + 1) (.slice (some ⟨w.heap.size + 1, 0, none⟩) 16 16) sv 26) (h2 : Own wr (w.heap.size + 1) 3 .i64 (.slice (some ⟨w.heap.size + 1, 0, none⟩) 16 16) cs) (h3 : Own wr (w.heap.size + 1 + 1) 3 .i64 sv ss) (h4 : Below w.heap.size w wr) (h5 : Two wr w.heap.size (.slice none 0 0) (.slice none 0 0) 26)
    (ho : Own w' (w.heap.size + 1 + 1) 3 .i64 v' (ss ++ [y])) (hb : Below (w.heap.size + 1 + 1) wr w') (hk : ∀ g, g < wr.heap.size → some g ≠ sv.ownBlock → w'.heap[g]? = wr.heap[g]?) :
    (Two w' (w.heap.size + 1 + 1 + 1) (.slice (some ⟨w.heap.size + 1, 0, none⟩) 16 16) sv 26) ∧ Cst w (w'.setCell ⟨w.heap.size + 1 + 1 + 1, 1, none⟩ v') cs (ss ++ [y]) := by
  have t1 : Two w' (w.heap.size + 1 + 1 + 1) (.slice (some ⟨w.heap.size + 1, 0, none⟩) 16 16) sv 26 := (hk _ h1.lt (fun e => (h3.ne26 h1) e.symm)).trans h1
  have t5 : Two w' w.heap.size (.slice none 0 0) (.slice none 0 0) 26 := (hk _ h5.lt (fun e => (h3.ne26 h5) e.symm)).trans h5
  have o2 : Own w' (w.heap.size + 1) 3 .i64 (.slice (some ⟨w.heap.size + 1, 0, none⟩) 16 16) cs := by
    refine ⟨Nat.le_trans h2.1 hb.size, h2.2.1, ?_⟩
    rcases h2.2.2 with h0 | ⟨g, cap, cur, hv, hg, hh, r⟩
    · exact .inl h0
    · refine .inr ⟨g, cap, cur, hv, hg, (hb.block g ?_).trans hh, r⟩
      have : w.heap.size + 1 = g := by simp at hv; exact hv.1
      omega
  have hne3 : v'.ownBlock ≠ some (w.heap.size + 1 + 1 + 1) := ho.ne26 t1
  refine ⟨t1, v', t1.set1 _, ?_, ?_, ?_, t5.other (by omega) _⟩
  · exact o2.ef (t := 26) (l := [.slice (some ⟨w.heap.size + 1, 0, none⟩) 16 16, sv]) t1 (by decide) (Ef.set _ _ _)
  · exact ho.ef (t := 26) (l := [.slice (some ⟨w.heap.size + 1, 0, none⟩) 16 16, sv]) t1 (by decide) (Ef.set _ _ _)
  · exact (h4.trans ⟨hb.os, hb.tape, hb.output, hb.size, fun k hk => hb.block k (by omega)⟩).setCell (p := ⟨w.heap.size + 1 + 1 + 1, 1, none⟩) (by show w.heap.size ≤ w.heap.size + 1 + 1 + 1; omega) _
theorem make16 : ∀ q, (Instr.makeSlice 24 (.int .i64 16) (.int .i64 16)).run Try.prog q = .ok (.slice (some ⟨q.heap.size, 0, none⟩) 16 16) (q.alloc (.cells ((List.replicate 16 (0 : Int)).map (Value.int .i64)).toArray 3)) := fun q => by kernel_rfl

set_option maxRecDepth 20000 in
set_option maxHeartbeats 1600000 in
theorem impl_codes (ao : Option Addr) (cap : Nat) (ls : List Int) (w : World) (hv : View .i64 w ao 256 ls) :
    Calls Try.prog 43 #[.slice ao 256 cap] w fun e w' => ∃ v, e = .returned v ∧ COwn w' w.heap.size v (cntsTo ls 16) (symsTo ls 16) ∧ Below w.heap.size w w' := by
  have HV := hid hv
  have hmk := make16
  clear hv
  have H0 : Hid (∀ wx, wx = ((((w.alloc (.cells #[.slice none 0 0, .slice none 0 0] 26)).alloc (.cells ((List.replicate 16 (0 : Int)).map (Value.int .i64)).toArray 3)).alloc (.cells #[] 3)).alloc (.cells #[.slice (some ⟨w.heap.size + 1, 0, none⟩) 16 16, .slice (some ⟨w.heap.size + 1 + 1, 0, none⟩) 0 0] 26)) → Cst w wx (cntsTo ls 0 ++ List.replicate (16 - 0) 0) (symsTo ls 0)) := by
    refine hid (fun wx e => ?_)
    obtain ⟨A, hA⟩ : ∃ A, A = w.alloc (.cells #[.slice none 0 0, .slice none 0 0] 26) := ⟨_, rfl⟩
    have sA : A.heap.size = w.heap.size + 1 := by rw [hA]; simp
    obtain ⟨B, hB⟩ : ∃ B, B = A.alloc (.cells ((List.replicate 16 (0 : Int)).map (Value.int .i64)).toArray 3) := ⟨_, rfl⟩
    have sB : B.heap.size = w.heap.size + 1 + 1 := by rw [hB, World.size_alloc, sA]
    obtain ⟨D, hD⟩ : ∃ D, D = B.alloc (.cells #[] 3) := ⟨_, rfl⟩
    have sD : D.heap.size = w.heap.size + 1 + 1 + 1 := by rw [hD, World.size_alloc, sB]
    rw [← hA, ← hB, ← hD] at e
    have b1 := (Below.refl A.heap.size A).alloc (Nat.le_refl _) (.cells ((List.replicate 16 (0 : Int)).map (Value.int .i64)).toArray 3)
    rw [← hB] at b1
    have b2 := (Below.refl B.heap.size B).alloc (Nat.le_refl _) (.cells #[] 3)
    rw [← hD] at b2
    have b3 := (Below.refl D.heap.size D).alloc (Nat.le_refl _) (.cells #[.slice (some ⟨w.heap.size + 1, 0, none⟩) 16 16, .slice (some ⟨w.heap.size + 1 + 1, 0, none⟩) 0 0] 26)
    rw [← e] at b3
    have b0 := (Below.refl w.heap.size w).alloc (Nat.le_refl _) (.cells #[.slice none 0 0, .slice none 0 0] 26)
    rw [← hA] at b0
    have t0 := Two.new w (.slice none 0 0) (.slice none 0 0) 26
    rw [← hA] at t0
    have o1 := Own.madeI A A.heap.size (List.replicate 16 0) (Nat.le_refl _) (by decide)
    rw [← hB, List.length_replicate, sA] at o1
    have o2 := Own.empty B 3 .i64 B.heap.size (Nat.le_refl _)
    rw [← hD, sB] at o2
    have t3 := Two.new D (.slice (some ⟨w.heap.size + 1, 0, none⟩) 16 16) (.slice (some ⟨w.heap.size + 1 + 1, 0, none⟩) 0 0) 26
    rw [← e, sD] at t3
    exact ⟨_, t3, ((o1.below b2).below b3), o2.below b3, b0.trans ((b1.mono (by omega)).trans ((b2.mono (by omega)).trans (b3.mono (by omega)))), ((t0.below b1 (by omega)).below b2 (by omega)).below b3 (by omega)⟩
  go_enter Try.func43, Try.ntmps43
  go_wp2_with fail
  go_loopw [13] (fun i wr => ∃ n : Nat, n ≤ 16 ∧ i = .int .i64 n ∧ Hid (Cst w wr (cntsTo ls n ++ List.replicate (16 - n) 0) (symsTo ls n))) (fun i _ => 16 - (intOf i).toNat)
  case atStart => exact ⟨0, by decide, rfl, hid (H0.out _ rfl)⟩
  case round =>
    obtain ⟨n, hn, rfl, hC⟩ := hrel
    by_cases hlt : n < 16
    · have hn1 : (n : Int) < 16 := by omega
      rw [← cntD_zero ls n hlt] at hC
      clear hn H0
      go_wp2_with fail
      go_loopw [18] (fun j wr => ∃ k : Nat, k ≤ 256 ∧ j = .int .i64 k ∧ Hid (Cst w wr (cntD ls n k) (symsTo ls n ++ pickTo ls ((n : Int) + 1) k))) (fun j _ => 256 - (intOf j).toNat)
      case atStart => exact ⟨0, by decide, rfl, hid (by rw [pickTo, List.append_nil]; exact hC.out)⟩
      case round =>
        obtain ⟨k, hk, rfl, hD⟩ := hrel
        by_cases hlk : k < 256
        · have hk1 : (k : Int) < 256 := by omega
          obtain ⟨b, off, rfl, hc⟩ := HV.out.2 k hlk
          obtain ⟨sv, h1, h2, h3, h4, h5⟩ := hD.out
          have hcr := (h4.cell (p := ⟨b, off + k, none⟩) (World.block_lt_of_cell? w _ hc)).trans hc
          obtain ⟨q0, q1, q2, q3⟩ := h1.cells
          by_cases hX : ls.getD k 0 = (n : Int) + 1
          · have HS := hid (cntD_set ls n k hlt hX)
            have HP := hid (show symsTo ls n ++ pickTo ls ((n : Int) + 1) (k + 1) = (symsTo ls n ++ pickTo ls ((n : Int) + 1) k) ++ [(k : Int)] from by rw [pickTo, if_pos hX, List.append_assoc])
            have hg := h2.at n (by rw [cntD_len ls n k hlt]; exact hlt)
            rw [cntD_get ls n k hlt] at hg
            have hY := pickTo_len ls ((n : Int) + 1) k
            have hfr := h2.free n
            have hL := symsTo_len ls n
            rw [hX] at hcr
            obtain ⟨aS, cS, rfl⟩ := h3.shape
            generalize (pickTo ls ((n : Int) + 1) k).length = Y at *
            have h1' := h1.other (i := n) (show w.heap.size + 1 + 1 + 1 ≠ w.heap.size + 1 by omega) (.int .i64 ((Y : Int) + 1))
            have h5' := h5.other (i := n) (show w.heap.size ≠ w.heap.size + 1 by omega) (.int .i64 ((Y : Int) + 1))
            have h2' := h2.store n ((Y : Int) + 1)
            rw [HS.out] at h2'
            have h3' := h3.setCell_below (a := ⟨w.heap.size + 1, n, none⟩) (by show w.heap.size + 1 < w.heap.size + 1 + 1; omega) (.int .i64 ((Y : Int) + 1))
            have h4' := h4.setCell (p := ⟨w.heap.size + 1, n, none⟩) (by show w.heap.size ≤ w.heap.size + 1; omega) (.int .i64 ((Y : Int) + 1))
            have HW := hid (show _ ∧ _ ∧ _ ∧ _ ∧ _ from ⟨h1', h2', h3', h4', h5'⟩)
            obtain ⟨r0, r1, r2, r3⟩ := h1'.cells
            have HL := hid (show (symsTo ls n ++ pickTo ls ((n : Int) + 1) k).length < 100000 from by
              have := pickTo_len ls ((n : Int) + 1) k
              rw [List.length_append]; omega)
            have HD := hid (fun v' w' ho hb hk => Cst.push (v' := v') (w' := w') (y := (k : Int)) h1' h2' h3' h4' h5' ho hb hk)
            clear h1 h2 h3 h4 h5 h1' h2' h3' h4' h5' HS hD hX hL hC
            generalize symsTo ls n ++ pickTo ls ((n : Int) + 1) k = SL at *
            go_wp2_with (first | (refine wpList_pushG (wr.setCell ⟨w.heap.size + 1, n, none⟩ (.int .i64 ((Y : Int) + 1))) rfl (.tmp 35) (.tmp 37) 24 rfl (w.heap.size + 1 + 1) 3 .i64 0 8 Try.underlying24 Try.info3 (.slice aS SL.length cS) SL (by rfl) HW.out.2.2.1 (k : Int) (by go_simp) (by have := HL.out; omega) (by decide) ?_; rintro v' w' ho hb hk; obtain ⟨aV, cV, rfl⟩ := ho.shape; have HE := hid (HD.out _ w' ho hb hk); obtain ⟨s0, s1, s2, s3⟩ := HE.out.1.cells; clear ho hb hk) | fail)
            go_roundw
            case rel => exact ⟨k + 1, by omega, by go_num, hid (by rw [HP.out]; have h := HE.out.2; rw [List.length_append, List.length_singleton] at h; exact h)⟩
            case measure => simp [intOf]; omega
          · have HS := hid (cntD_same ls n k hX)
            have HP := hid (show symsTo ls n ++ pickTo ls ((n : Int) + 1) (k + 1) = symsTo ls n ++ pickTo ls ((n : Int) + 1) k from by rw [pickTo, if_neg hX])
            have hne : (ls.getD k 0 == (n : Int) + 1) = false := by simpa using hX
            generalize ls.getD k 0 = X at *
            clear hX h1 h2 h3 h4 h5
            go_wp2_with fail
            go_roundw
            case rel => exact ⟨k + 1, by omega, by go_num, hid (by rw [HP.out, HS.out]; exact hD.out)⟩
            case measure => simp [intOf]; omega
        · obtain rfl : k = 256 := by omega
          have HE := hid (show Cst w wr (cntsTo ls (n + 1) ++ List.replicate (16 - (n + 1)) 0) (symsTo ls (n + 1)) from by rw [← cntD_last]; exact hD.out)
          clear hD
          go_wp2_with fail
          go_roundw
          case rel => exact ⟨n + 1, by omega, by go_num, HE⟩
          case measure => simp [intOf]; omega
    · obtain rfl : n = 16 := by omega
      obtain ⟨sv, h1, h2, h3, h4, h5⟩ := hC.out
      obtain ⟨q0, q1, q2, q3⟩ := h1.cells
      obtain ⟨r0, r1, r2, r3⟩ := h5.cells
      have HW := hid (show _ ∧ _ ∧ _ from ⟨h2, h3, h4⟩)
      obtain ⟨aS, cS, rfl⟩ := h3.shape
      clear h1 h2 h3 h4 h5 H0 hC
      go_wp2_with fail
      have hz : cntsTo ls 16 ++ List.replicate (16 - 16) 0 = cntsTo ls 16 := by rw [Nat.sub_self]; exact List.append_nil _
      have h2 := HW.out.1
      rw [hz] at h2
      refine bodyPost_ret (v := .agg #[.slice (some ⟨w.heap.size + 1, 0, none⟩) 16 16, .slice aS (symsTo ls 16).length cS]) (by simp [results, Try.results43, go_sem, r0, r1]) rfl ⟨_, rfl, ⟨_, _, w.heap.size + 1 + 1, rfl, by omega, ?_, ?_, fun a n c h => by cases h; show w.heap.size + 1 < w.heap.size + 1 + 1; omega⟩, ?_⟩
      · exact ((h2.setCell_below (a := ⟨w.heap.size, 0, none⟩) (by show w.heap.size < w.heap.size + 1; omega) _).setCell_below (a := ⟨w.heap.size, 1, none⟩) (by show w.heap.size < w.heap.size + 1; omega) _).mono (by omega)
      · exact (HW.out.2.1.setCell_below (a := ⟨w.heap.size, 0, none⟩) (by show w.heap.size < w.heap.size + 1 + 1; omega) _).setCell_below (a := ⟨w.heap.size, 1, none⟩) (by show w.heap.size < w.heap.size + 1 + 1; omega) _
      · exact (HW.out.2.2.setCell (p := ⟨w.heap.size, 0, none⟩) (Nat.le_refl _) _).setCell (p := ⟨w.heap.size, 1, none⟩) (Nat.le_refl _) _
end Go.Proofs.Ytmdmolofiblbmaa
