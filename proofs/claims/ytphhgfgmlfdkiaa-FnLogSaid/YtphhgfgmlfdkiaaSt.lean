/- Contracts of DiskStart, of the program and of the specification. -/
import Derived.Test.YtphhgfgmlfdkiaaOk
namespace Go.Proofs.Ytphhgfgmlfdkiaa
open Go.RowKit
set_option linter.unusedVariables false

/-- What DiskStart answers. -/
def stR (n : Int) : List ByteArray × Bool := if 1 ≤ n ∧ n ≤ 1500 then (List.replicate n.toNat ByteArray.empty, true) else ([], false)
theorem stR_yes {n : Int} (h1 : 1 ≤ n) (h2 : n ≤ 1500) : stR n = (List.replicate n.toNat ByteArray.empty, true) := by unfold stR; rw [if_pos ⟨h1, h2⟩]
theorem stR_no {n : Int} (h : ¬ (1 ≤ n ∧ n ≤ 1500)) : stR n = ([], false) := by unfold stR; rw [if_neg h]
theorem stR_len (n : Int) : (stR n).1.length ≤ 1500 := by
  unfold stR
  split
  · simp; omega
  · simp
theorem OwG.cast {w : World} {base e sz : Nat} {v : Value} {n n' : Nat} {cs cs' : List Value} (h : OwG w base e sz v n cs) (hn : n = n') (hc : cs = cs') : OwG w base e sz v n' cs' := by subst hn; subst hc; exact h

theorem encS_rep (k : Nat) : encS (List.replicate k ByteArray.empty) ++ [.string (ByteArray.mk #[])] = encS (List.replicate (k + 1) ByteArray.empty) := by
  rw [List.replicate_succ', encS_app]
  rfl

set_option maxRecDepth 100000 in
set_option maxHeartbeats 1600000 in
theorem spec_start (n : Int) (w : World) :
    Calls Try.prog 37 #[.int .i64 n] w fun e w' => ∃ v, e = .returned (.tuple #[v, .bool (stR n).2]) ∧ DO w' w.heap.size v (stR n).1 [] ∧ Below w.heap.size w w' := by
  have HN := hid (Blk.new w [.slice none 0 0, .slice none 0 0] 27)
  have HB := hid ((Below.refl w.heap.size w).alloc (Nat.le_refl _) (.cells #[.slice none 0 0, .slice none 0 0] 27))
  have HO : Hid (∀ q, w.heap.size ≤ q → DO (w.alloc (.cells #[.slice none 0 0, .slice none 0 0] 27)) w.heap.size (.agg #[.slice none 0 0, .slice none 0 0]) [] []) := hid (fun _ _ => ⟨_, _, rfl, OwG.nil _ _ _ _ (by simp), OwG.nil _ _ _ _ (by simp)⟩)
  have HIN := hid (fun q => spec_in n 1 1500 q)
  by_cases hh : 1 ≤ n ∧ n ≤ 1500
  · rw [stR_yes hh.1 hh.2]
    rw [decide_eq_true hh] at HIN
    obtain ⟨k, rfl⟩ : ∃ k : Nat, n = k := ⟨n.toNat, by omega⟩
    rw [Int.toNat_natCast]
    obtain ⟨h1, h2⟩ := hh
    have hk : k ≤ 1500 := by omega
    obtain ⟨n1, n2, n3⟩ := new_two w [.slice none 0 0, .slice none 0 0] [.slice none 0 0, .slice none 0 0] 27 27
    have N1 := hid n1
    have N2 := hid n2
    have N3 := hid n3
    clear HO HN HB n1 n2 n3 h1 h2
    go_enter Try.func37, Try.ntmps37
    go_wp2_with (go_at_call 55; refine (HIN.out _).mono ?_; rintro e w1 ⟨rfl, rfl⟩)
    generalize (w.alloc _).alloc _ = w0 at *
    have hw0 := N2.out.lt
    go_loopw [5] (fun i wr => ∃ (j : Nat) (v : Value), j ≤ k ∧ i = .int .i64 j ∧ Hid (Blk wr w.heap.size [.slice none 0 0, .slice none 0 0] 27) ∧ Hid (Blk wr (w.heap.size + 1) [v, .slice none 0 0] 27) ∧ Hid (OwG wr (w.heap.size + 2) 9 1 v j (encS (List.replicate j ByteArray.empty))) ∧ Hid (Below w.heap.size w wr)) (fun i _ => k - (intOf i).toNat)
    case atStart => exact ⟨0, .slice none 0 0, by omega, rfl, N1.out, N2.out, OwG.nil _ _ _ _ (by omega), N3.out⟩
    case round =>
      obtain ⟨j, v, hj, rfl, M1, M2, hown, hb⟩ := hrel
      clear N1 N2 N3
      obtain ⟨ao, cap, rfl, _, _⟩ := hown.out.shape
      by_cases hlt : j < k
      · have hlt' : (j : Int) < (k : Int) := by omega
        have hj3 : j < 1000000000 := by omega
        have hone : ∀ u ∈ [Value.string (ByteArray.mk #[])], u.oneCell' = true := fun u hu => by simp at hu; subst hu; rfl
        have q0 := M2.out.cell (i := 0) rfl
        have f0 := M2.out.free 0
        have hwr : w.heap.size + 2 ≤ wr.heap.size := hown.out.1
        go_wp2_with (at_builtin; refine wpList_pushG wr wr.heap.size rfl rfl _ _ 24 rfl (w.heap.size + 2) 9 (.string ByteArray.empty) 1 16 Try.underlying24 Try.info9 rfl (by decide) (.slice ao j cap) j (encS (List.replicate j ByteArray.empty)) rfl hown.out [.string (ByteArray.mk #[])] rfl hone rfl hj3 (by decide) ?_)
        intro v2 w2 ho2 hb2 hg2 _
        obtain ⟨ao2, cap2, rfl, _, _⟩ := ho2.shape
        have K1 := M1.out.below hb2 (by omega)
        have K2 := M2.out.below hb2 (by omega)
        have HK1 := hid (K1.other (a := ⟨w.heap.size + 1, 0, none⟩) (by show w.heap.size ≠ w.heap.size + 1; omega) (.slice ao2 (j + 1) cap2))
        have HK2 := hid (K2.set 0 (.slice ao2 (j + 1) cap2))
        have HO2 := hid ((ho2.setCell_below (a := ⟨w.heap.size + 1, 0, none⟩) (by show w.heap.size + 1 < w.heap.size + 2; omega) (.slice ao2 (j + 1) cap2)).cast rfl (encS_rep j))
        have HB2 := hid ((hb.out.trans (hb2.mono (by omega))).setCell (p := ⟨w.heap.size + 1, 0, none⟩) (by show w.heap.size ≤ w.heap.size + 1; omega) (.slice ao2 (j + 1) cap2))
        have r0 := K2.cell (i := 0) rfl
        have s0 := K2.free 0
        clear ho2 hb2 hg2 K1 K2 q0 f0
        go_wp2_with fail
        go_roundw
        case rel => exact ⟨j + 1, _, by omega, by go_num, HK1.out, HK2.out, HO2.out, HB2.out⟩
        case measure => simp [intOf]; omega
      · obtain rfl : j = k := by omega
        have q0 := M2.out.cell (i := 0) rfl
        have q1 := M2.out.cell (i := 1) rfl
        have k0 := M1.out.cell (i := 0) rfl
        have k1 := M1.out.cell (i := 1) rfl
        have l0 := M1.out.free 0
        have l1 := M1.out.free 1
        have F := (M1.out.set 0 (.slice ao j cap)).set 1 (.slice none 0 0)
        have z0 := F.cell (i := 0) rfl
        have z1 := F.cell (i := 1) rfl
        have G := M1.out.set 0 (.slice ao j cap)
        have y1 := G.cell (i := 1) rfl
        have x1 := G.free 1
        clear F G
        go_wp2_with fail
        refine bodyPost_ret (v := .tuple #[.agg #[.slice ao j cap, .slice none 0 0], .bool true]) (by simp [results, Try.results37, go_sem, z0, z1]) rfl ?_
        refine ⟨_, rfl, ⟨_, _, rfl, ?_, ?_⟩, ?_⟩
        · have := ((hown.out.setCell_below (a := ⟨w.heap.size, 0, none⟩) (by show w.heap.size < w.heap.size + 2; omega) (.slice ao j cap)).setCell_below (a := ⟨w.heap.size, 1, none⟩) (by show w.heap.size < w.heap.size + 2; omega) (.slice none 0 0)).mono (base' := w.heap.size) (by omega)
          exact this.cast (by simp) rfl
        · exact OwG.nil _ _ _ _ (by have := hb.out.size; simpa [World.setCell] using this)
        · exact (hb.out.setCell (p := ⟨w.heap.size, 0, none⟩) (Nat.le_refl _) _).setCell (p := ⟨w.heap.size, 1, none⟩) (Nat.le_refl _) _
  · rw [stR_no hh]
    rw [decide_eq_false hh] at HIN
    go_enter Try.func37, Try.ntmps37
    go_wp2_with (go_at_call 55; refine (HIN.out _).mono ?_; rintro e w1 ⟨rfl, rfl⟩)
    refine bodyPost_ret (v := .tuple #[.agg #[.slice none 0 0, .slice none 0 0], .bool false]) (by simp [results, Try.results37, go_sem]) rfl ?_
    exact ⟨_, rfl, HO.out _ (Nat.le_refl _), HB.out⟩
end Go.Proofs.Ytphhgfgmlfdkiaa
