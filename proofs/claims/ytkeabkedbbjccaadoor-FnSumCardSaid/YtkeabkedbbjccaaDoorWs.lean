/- SumWords of the program and of the specification: both tell the words of a block. -/
import Derived.Test.YtkeabkedbbjccaaDoorRo
import Derived.Test.YtkeabkedbbjccaaDoorGet
import Derived.Deep.RegionHeld3
namespace Go.Proofs.YtkeabkedbbjccaaDoor
open Go.RowKit
set_option linter.unusedVariables false

theorem Tryd.info26 : (Tryd.prog.info? 26).map (fun i => (i.zero, i.size, i.bytes)) = some (some (.int .u32 0), 1, 4) := by kernel_rfl
/-- The word at a place of a text; the next word of a block behind those of L; the first k words of a block. -/
def wordAt (s : ByteArray) (k : Nat) : Int := if h : k + 4 ≤ s.size then wordOf (s[k]'(by omega)) (s[k + 1]'(by omega)) (s[k + 2]'(by omega)) (s[k + 3]'(by omega)) else 0
def newW (L : List Int) (k : Nat) : Int := (((L.getD (k - 16) 0 + sm0 (L.getD (k - 15) 0)) % 4294967296 + L.getD (k - 7) 0) % 4294967296 + sm1 (L.getD (k - 2) 0)) % 4294967296
def nextW (s : ByteArray) (L : List Int) (k : Nat) : Int := if k < 16 then wordAt s (4 * k) else newW L k
def ws (s : ByteArray) : Nat → List Int
  | 0 => []
  | k + 1 => ws s k ++ [nextW s (ws s k) k]
theorem ws_len (s : ByteArray) : ∀ k, (ws s k).length = k
  | 0 => rfl
  | k + 1 => by rw [ws, List.length_append, ws_len s k]; rfl
theorem wordOf_word (a b c d : UInt8) : W32 (wordOf a b c d) := by
  have := byte_lt a
  have := byte_lt b
  have := byte_lt c
  have := byte_lt d
  unfold W32 wordOf
  omega
theorem wordAt_word (s : ByteArray) (k : Nat) : W32 (wordAt s k) := by
  unfold wordAt
  split
  · exact wordOf_word _ _ _ _
  · unfold W32
    omega
theorem newW_word (L : List Int) (k : Nat) : W32 (newW L k) := W32.mod _
theorem nextW_word (s : ByteArray) (L : List Int) (k : Nat) : W32 (nextW s L k) := by
  unfold nextW
  split
  · exact wordAt_word _ _
  · exact newW_word _ _
theorem ws_word (s : ByteArray) : ∀ k, ∀ x ∈ ws s k, W32 x
  | 0, x, h => by simp [ws] at h
  | k + 1, x, h => by
    rw [ws, List.mem_append] at h
    rcases h with h | h
    · exact ws_word s k x h
    · simp at h
      rw [h]
      exact nextW_word _ _ _
theorem getD_word {L : List Int} (h : ∀ x ∈ L, W32 x) (j : Nat) : W32 (L.getD j 0) := by
  by_cases hj : j < L.length
  · refine h _ ?_
    simp [List.getD, hj]
  · have e : L.getD j 0 = 0 := by simp [List.getD, Nat.le_of_not_lt hj]
    rw [e]
    unfold W32
    omega
/-- The first k words, the others still 0. -/
def wz (s : ByteArray) (k : Nat) : List Int := ws s k ++ List.replicate (64 - k) 0
theorem wz_len (s : ByteArray) (k : Nat) (h : k ≤ 64) : (wz s k).length = 64 := by
  unfold wz
  rw [List.length_append, ws_len, List.length_replicate]
  omega
theorem wz_0 (s : ByteArray) : wz s 0 = List.replicate 64 0 := rfl
theorem wz_64 (s : ByteArray) : wz s 64 = ws s 64 := by unfold wz; simp
theorem wz_set (s : ByteArray) (k : Nat) (h : k < 64) : (wz s k).set k (nextW s (ws s k) k) = wz s (k + 1) := by
  unfold wz
  rw [List.set_append_right _ _ (by rw [ws_len]; exact Nat.le_refl _), ws_len, Nat.sub_self]
  obtain ⟨m, hm⟩ : ∃ m, 64 - k = m + 1 := ⟨63 - k, by omega⟩
  rw [hm, show 64 - (k + 1) = m by omega, List.replicate_succ, List.set_cons_zero, ws, List.append_assoc]
  rfl
theorem wz_getD (s : ByteArray) (k j : Nat) (h : j < k) : (wz s k).getD j 0 = (ws s k).getD j 0 := by
  unfold wz
  have : j < (ws s k).length := by rw [ws_len]; exact h
  simp [List.getD, List.getElem?_append, this]

theorem cell_far {w : World} {b i j : Nat} {v u : Value} (h : w.cell? ⟨b, j, none⟩ = some u) (hne : ¬ j = i) : (w.setCell ⟨b, i, none⟩ v).cell? ⟨b, j, none⟩ = some u := by
  have hn : (⟨b, i, none⟩ : Addr) ≠ ⟨b, j, none⟩ := fun e => hne (by cases e; rfl)
  exact (World.cell?_setCell_other _ _ _ _ hn).trans h
theorem gw_impl (s : ByteArray) (hs : s.size = 64) (k : Nat) (hk : k < 16) (w : World) :
    Calls Tryd.prog 10 #[.string s, .int .i64 (4 * (k : Int))] w fun e w' => e = .returned (.int .u32 (wordAt s (4 * k))) ∧ ∃ n, w' = w.drewN n := by
  have h : 4 * k + 4 ≤ s.size := by omega
  have := impl_getWord_yes s (4 * k) w (by omega) h
  unfold wordAt
  rw [dif_pos h]
  exact this
theorem gw_spec (s : ByteArray) (hs : s.size = 64) (k : Nat) (hk : k < 16) (w : World) :
    Calls Tryd.prog 35 #[.string s, .int .i64 (4 * (k : Int))] w fun e w' => e = .returned (.int .u32 (wordAt s (4 * k))) ∧ ∃ n, w' = w.drewN n := by
  have h : 4 * k + 4 ≤ s.size := by omega
  have := spec_getWord_yes s (4 * k) w (by omega) h
  unfold wordAt
  rw [dif_pos h]
  exact this

set_option maxRecDepth 100000 in
set_option maxHeartbeats 1600000 in
theorem impl_words (s : ByteArray) (hs : s.size = 64) (w : World) :
    Calls Tryd.prog 17 #[.string s] w fun e w' => ∃ v, e = .returned v ∧ Own w' w.heap.size 26 .u32 v (ws s 64) ∧ Below w.heap.size w w' := by
  have HS := hid hs
  have hs1 : (s.size : Int) = 64 := by omega
  clear hs
  go_enter Tryd.func17, Tryd.ntmps17
  go_wp2_with (at_make; refine wpList_mkn w rfl _ _ 32 rfl w.heap.size 26 .u32 4 Tryd.underlying32 Tryd.info26 _ _ 64 rfl rfl (by omega) (by decide) (Nat.le_refl _) ?_)
  intro w1 ho1 hb1
  go_wp2_with fail
  go_loopw [12] (fun i wr => ∃ k : Nat, k ≤ 64 ∧ i = .int .i64 k ∧ Hid (Own wr w.heap.size 26 .u32 (.slice (some ⟨w.heap.size, 0, none⟩) 64 64) (wz s k)) ∧ Hid (Below w.heap.size w wr)) (fun i _ => 64 - (intOf i).toNat)
  case atStart => exact ⟨0, by omega, rfl, ho1, hb1⟩
  case round =>
    obtain ⟨k, hk, rfl, hown, hb⟩ := hrel
    by_cases hlt : k < 64
    · have hlt' : (k : Int) < 64 := by omega
      have hfr := hown.out.free k
      have hcl := hown.out.at k (by rw [wz_len s k hk]; exact hlt)
      by_cases h16 : k < 16
      · have h16' : (k : Int) < 16 := by omega
        have HG := hid (gw_impl s HS.out k h16 wr)
        have HN : Hid (nextW s (ws s k) k = wordAt s (4 * k)) := hid (by unfold nextW; rw [if_pos h16])
        go_wp2_with fail
        refine HG.out.mono ?_
        rintro e w2 ⟨rfl, n2, rfl⟩
        go_wp2_with fail
        go_roundw
        case rel => exact ⟨k + 1, by omega, by go_num, by rw [← wz_set s k hlt, HN.out]; exact (hown.out.drew n2).store k _, (belowN hb.out n2).setCell (Nat.le_refl _) _⟩
        case measure => simp [intOf]; omega
      · have h16' : (16 : Int) ≤ (k : Int) := by omega
        have c16 := hown.out.at (k - 16) (by rw [wz_len s _ hk]; omega)
        have c15 := hown.out.at (k - 15) (by rw [wz_len s _ hk]; omega)
        have c7 := hown.out.at (k - 7) (by rw [wz_len s _ hk]; omega)
        have c2 := hown.out.at (k - 2) (by rw [wz_len s _ hk]; omega)
        rw [wz_getD s _ _ (by omega)] at c16 c15 c7 c2
        have HA := hid (getD_word (ws_word s k) (k - 16))
        have HB := hid (getD_word (ws_word s k) (k - 15))
        have HC := hid (getD_word (ws_word s k) (k - 7))
        have HD := hid (getD_word (ws_word s k) (k - 2))
        have HN : Hid (nextW s (ws s k) k = ((((ws s k).getD (k - 16) 0 + sm0 ((ws s k).getD (k - 15) 0)) % 4294967296 + (ws s k).getD (k - 7) 0) % 4294967296 + sm1 ((ws s k).getD (k - 2) 0)) % 4294967296) := hid (by
          unfold nextW
          rw [if_neg h16]
          rfl)
        generalize (ws s k).getD (k - 16) 0 = A at *
        generalize (ws s k).getD (k - 15) 0 = B at *
        generalize (ws s k).getD (k - 7) 0 = C at *
        generalize (ws s k).getD (k - 2) 0 = D at *
        have HSM0 := hid (fun q => impl_sm0 B q HB.out)
        have HSM1 := hid (fun q => impl_sm1 D q HD.out)
        have b0 := (sm0_word HB.out).1
        have b1 := (sm0_word HB.out).2
        have d0 := (sm1_word HD.out).1
        have d1 := (sm1_word HD.out).2
        have a0 := HA.out.1
        have a1 := HA.out.2
        have e0 := HC.out.1
        have e1 := HC.out.2
        have j16 : IntKind.i64.wrap ((k : Int) - 16) = (k : Int) - 16 := by rw [IntKind.wrap_i64]; omega
        have p16 : (16 : Int) ≤ (k : Int) := by omega
        have m16 : (0 : Int) ≤ (k : Int) - 16 := by omega
        have l16 : (k : Int) - 16 < 64 := by omega
        have j15 : IntKind.i64.wrap ((k : Int) - 15) = (k : Int) - 15 := by rw [IntKind.wrap_i64]; omega
        have p15 : (15 : Int) ≤ (k : Int) := by omega
        have m15 : (0 : Int) ≤ (k : Int) - 15 := by omega
        have l15 : (k : Int) - 15 < 64 := by omega
        have j7 : IntKind.i64.wrap ((k : Int) - 7) = (k : Int) - 7 := by rw [IntKind.wrap_i64]; omega
        have p7 : (7 : Int) ≤ (k : Int) := by omega
        have m7 : (0 : Int) ≤ (k : Int) - 7 := by omega
        have l7 : (k : Int) - 7 < 64 := by omega
        have j2 : IntKind.i64.wrap ((k : Int) - 2) = (k : Int) - 2 := by rw [IntKind.wrap_i64]; omega
        have p2 : (2 : Int) ≤ (k : Int) := by omega
        have m2 : (0 : Int) ≤ (k : Int) - 2 := by omega
        have l2 : (k : Int) - 2 < 64 := by omega
        rw [show k - 16 = ((k : Int) - 16).toNat by omega] at c16
        rw [show k - 15 = ((k : Int) - 15).toNat by omega] at c15
        rw [show k - 7 = ((k : Int) - 7).toNat by omega] at c7
        rw [show k - 2 = ((k : Int) - 2).toNat by omega] at c2
        have x16 : ¬ ((k : Int) - 16).toNat = k := by omega
        have y16 : ¬ k = ((k : Int) - 16).toNat := by omega
        have x15 : ¬ ((k : Int) - 15).toNat = k := by omega
        have y15 : ¬ k = ((k : Int) - 15).toNat := by omega
        have x7 : ¬ ((k : Int) - 7).toNat = k := by omega
        have y7 : ¬ k = ((k : Int) - 7).toNat := by omega
        have x2 : ¬ ((k : Int) - 2).toNat = k := by omega
        have y2 : ¬ k = ((k : Int) - 2).toNat := by omega
        have HL := hid hlt
        clear h16 hlt hk
        generalize sm0 B = S0 at *
        generalize sm1 D = S1 at *
        go_wp2_with fail
        go_region_held3 (fun q => q.cell? ⟨w.heap.size, ((k : Int) - 16).toNat, none⟩ = some (.int .u32 A) ∧ q.cell? ⟨w.heap.size, ((k : Int) - 15).toNat, none⟩ = some (.int .u32 B) ∧ q.cell? ⟨w.heap.size, ((k : Int) - 7).toNat, none⟩ = some (.int .u32 C) ∧ q.cell? ⟨w.heap.size, ((k : Int) - 2).toNat, none⟩ = some (.int .u32 D)) (first | go_keep | exact ⟨cell_far c16 x16, cell_far c15 x15, cell_far c7 x7, cell_far c2 x2⟩) (first
          | (go_at_call 33; refine (HSM0.out _).mono ?_; rintro e w2 ⟨rfl, n2, rfl⟩)
          | (go_at_call 34; refine (HSM1.out _).mono ?_; rintro e w3 ⟨rfl, n3, rfl⟩))
        all_goals
          go_wp2_with fail
          go_roundw
          case rel => exact ⟨k + 1, by omega, by go_num, by rw [← wz_set s k HL.out, HN.out]; exact (hown.out.drew _).store k _, (belowN hb.out _).setCell (Nat.le_refl _) _⟩
          case measure => simp [intOf]; omega
    · obtain rfl : k = 64 := by omega
      go_wp2_with fail
      go_ret
      exact ⟨_, rfl, by rw [← wz_64]; exact hown.out, hb.out⟩
end Go.Proofs.YtkeabkedbbjccaaDoor
