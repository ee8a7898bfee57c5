/- Contracts of the law's measures: szStringS, szWrite, szWriteS, szDisk. -/
import Derived.Test.YtphhgfgmlfdkiaaBs
namespace Go.Proofs.Ytphhgfgmlfdkiaa
open Go.RowKit
set_option linter.unusedVariables false

set_option maxHeartbeats 800000 in
theorem sz_strings (ao : Option Addr) (cap : Nat) (S : List ByteArray) (l : Int) (w : World) (hn : S.length ≤ 9223372036854775807) (hs : ∀ j, j < S.length → (sAt S j).size ≤ 9223372036854775807) (h0 : 0 ≤ l) (h1 : l ≤ 1048576) (hv : Rw w ao (encS S)) :
    Calls Try.prog 62 #[.slice ao S.length cap, .int .i64 l] w fun e w' => ∃ r, e = .returned (.int .i64 r) ∧ (r = -1 ∨ (0 ≤ r ∧ r ≤ l ∧ S.length ≤ 1048576 ∧ ∀ j, j < S.length → (sAt S j).size ≤ 1048576)) ∧ w = w' := by
  have HV := hid hv
  have HS := hid hs
  clear hv hs
  by_cases h : l - (S.length : Int) < 0
  · go_enter Try.func62, Try.ntmps62
    go_wp2
    go_ret
    exact ⟨_, rfl, .inl rfl, rfl⟩
  · go_enter Try.func62, Try.ntmps62
    go_wp2
    go_loop [1, 5] (fun q i => ∃ (k : Nat) (r : Int), k ≤ S.length ∧ i = .int .i64 k ∧ q = .int .i64 r ∧ 0 ≤ r ∧ r ≤ l ∧ Hid (∀ j, j < k → (sAt S j).size ≤ 1048576)) (fun _ i => S.length - (intOf i).toNat)
    case atStart => exact ⟨0, _, by omega, rfl, rfl, by omega, by omega, fun j hj => by omega⟩
    case round =>
      obtain ⟨k, r, hk, rfl, rfl, hr0, hr1, hsm⟩ := hrel
      by_cases hlt : k < S.length
      · obtain ⟨b, off, rfl, hc⟩ := HV.out.atS k hlt
        have hsz := HS.out k hlt
        have hlt' : (k : Int) < (S.length : Int) := by omega
        have HE := hid (show sAt S k = sAt S k from rfl)
        generalize hX : sAt S k = X at *
        have HX := hid hX
        clear hX
        by_cases hneg : r - (X.size : Int) < 0
        · go_wp2
          go_ret
          exact ⟨_, rfl, .inl rfl, rfl⟩
        · go_wp2
          go_round
          case rel =>
            refine ⟨k + 1, r - (X.size : Int), by omega, by go_num, rfl, by omega, by omega, fun j hj => ?_⟩
            by_cases e : j = k
            · subst e
              rw [HX.out]
              omega
            · exact hsm.out j (by omega)
          case measure => simp [intOf]; omega
      · obtain rfl : k = S.length := by omega
        go_wp2
        go_ret
        exact ⟨_, rfl, .inr ⟨hr0, hr1, by omega, hsm.out⟩, rfl⟩

theorem sz_write (x : Int) (s : ByteArray) (l : Int) (w : World) (hs : s.size ≤ 9223372036854775807) (h0 : 0 ≤ l) (h1 : l ≤ 1048576) :
    Calls Try.prog 87 #[.agg #[.int .i64 x, .string s], .int .i64 l] w fun e w' => ∃ r, e = .returned (.int .i64 r) ∧ (r = -1 ∨ (0 ≤ r ∧ r ≤ l ∧ s.size ≤ 1048576)) ∧ Below w.heap.size w w' := by
  have HB := hid ((Below.refl w.heap.size w).alloc (Nat.le_refl _) (.cells #[.int .i64 x, .string s] 120))
  by_cases h : l - (s.size : Int) < 0
  · go_enter Try.func87, Try.ntmps87
    go_wp2
    go_ret
    exact ⟨_, rfl, .inl rfl, HB.out⟩
  · go_enter Try.func87, Try.ntmps87
    go_wp2
    go_ret
    exact ⟨_, rfl, .inr ⟨by omega, by omega, by omega⟩, HB.out⟩

set_option maxHeartbeats 800000 in
theorem sz_writes (ao : Option Addr) (cap : Nat) (L : List (Int × ByteArray)) (l : Int) (w : World) (hn : L.length ≤ 9223372036854775807) (hs : ∀ j, j < L.length → (lAt L j).2.size ≤ 9223372036854775807) (h0 : 0 ≤ l) (h1 : l ≤ 1048576) (hv : Rw w ao (encW L)) :
    Calls Try.prog 63 #[.slice ao L.length cap, .int .i64 l] w fun e w' => ∃ r, e = .returned (.int .i64 r) ∧ (r = -1 ∨ (0 ≤ r ∧ r ≤ l ∧ L.length ≤ 1048576 ∧ ∀ j, j < L.length → (lAt L j).2.size ≤ 1048576)) ∧ Below w.heap.size w w' := by
  have HV := hid hv
  have HS := hid hs
  clear hv hs
  by_cases h : l - (L.length : Int) < 0
  · go_enter Try.func63, Try.ntmps63
    go_wp2
    go_ret
    exact ⟨_, rfl, .inl rfl, Below.refl _ _⟩
  · go_enter Try.func63, Try.ntmps63
    go_wp2
    go_loopw [1, 5] (fun q i wr => ∃ (k : Nat) (r : Int), k ≤ L.length ∧ i = .int .i64 k ∧ q = .int .i64 r ∧ 0 ≤ r ∧ r ≤ l ∧ Hid (∀ j, j < k → (lAt L j).2.size ≤ 1048576) ∧ Hid (Below w.heap.size w wr)) (fun _ i _ => L.length - (intOf i).toNat)
    case atStart => exact ⟨0, _, by omega, rfl, rfl, by omega, by omega, fun j hj => by omega, Below.refl _ _⟩
    case round =>
      obtain ⟨k, r, hk, rfl, rfl, hr0, hr1, hsm, hb⟩ := hrel
      by_cases hlt : k < L.length
      · obtain ⟨b, off, rfl, hc1, hc2⟩ := (HV.out.below (Nat.le_refl _) hb.out).atW k hlt
        have hlt' : (k : Int) < (L.length : Int) := by omega
        have HC := hid (sz_write (lAt L k).1 (lAt L k).2 r wr (HS.out k hlt) hr0 (by omega))
        generalize hX : lAt L k = X at *
        have HX := hid hX
        clear hX
        obtain ⟨x, s⟩ := X
        simp only at hc1 hc2 HC
        go_wp2_with fail
        refine HC.out.mono ?_
        rintro e w1 ⟨r1, rfl, hr, hb1⟩
        have B1 := hid (hb.out.trans (hb1.mono hb.out.size))
        clear hb1
        rcases hr with rfl | ⟨g0, g1, g2⟩
        · go_wp2_with fail
          go_ret
          exact ⟨_, rfl, .inl rfl, B1.out⟩
        · have hng : ¬ r1 < 0 := by omega
          go_wp2_with fail
          go_roundw
          case rel =>
            refine ⟨k + 1, r1, by omega, by go_num, rfl, by omega, by omega, fun j hj => ?_, B1.out⟩
            by_cases e : j = k
            · subst e
              rw [HX.out]
              exact g2
            · exact hsm.out j (by omega)
          case measure => simp [intOf]; omega
      · obtain rfl : k = L.length := by omega
        go_wp2_with fail
        go_ret
        exact ⟨_, rfl, .inr ⟨hr0, hr1, by omega, hsm.out⟩, hb.out⟩

/-- The texts of a disk are texts. -/
def Wd (S : List ByteArray) (L : List (Int × ByteArray)) : Prop :=
  S.length ≤ 9223372036854775807 ∧ (∀ j, j < S.length → (sAt S j).size ≤ 9223372036854775807) ∧ L.length ≤ 9223372036854775807 ∧ (∀ j, j < L.length → (lAt L j).2.size ≤ 9223372036854775807) ∧ ∀ j, j < L.length → (Lit.int .i64 (lAt L j).1).wf = true
/-- They are not too many and not too long. -/
def Sm (S : List ByteArray) (L : List (Int × ByteArray)) : Prop :=
  S.length ≤ 1048576 ∧ (∀ j, j < S.length → (sAt S j).size ≤ 1048576) ∧ L.length ≤ 1048576 ∧ (∀ j, j < L.length → (lAt L j).2.size ≤ 1048576)

set_option maxHeartbeats 800000 in
theorem sz_disk (v : Value) (S : List ByteArray) (L : List (Int × ByteArray)) (l : Int) (w : World) (hw : Wd S L) (h0 : 0 ≤ l) (h1 : l ≤ 1048576) (hv : DV w v S L) :
    Calls Try.prog 29 #[v, .int .i64 l] w fun e w' => ∃ r, e = .returned (.int .i64 r) ∧ (r = -1 ∨ (0 ≤ r ∧ r ≤ l ∧ Sm S L)) ∧ Below w.heap.size w w' := by
  obtain ⟨a, c, a', c', rfl, hr1, hr2⟩ := hv
  have HB := hid ((Below.refl w.heap.size w).alloc (Nat.le_refl _) (.cells #[.slice a S.length c, .slice a' L.length c'] 53))
  have HN := hid (Blk.new w [.slice a S.length c, .slice a' L.length c'] 53)
  have HC1 := hid (sz_strings a c S l (w.alloc (.cells #[.slice a S.length c, .slice a' L.length c'] 53)) hw.1 hw.2.1 h0 h1 (hr1.below (Nat.le_refl _) HB.out))
  have HC2 := hid (fun r h0 h1 => sz_writes a' c' L r (w.alloc (.cells #[.slice a S.length c, .slice a' L.length c'] 53)) hw.2.2.1 hw.2.2.2.1 h0 h1 (hr2.below (Nat.le_refl _) HB.out))
  clear hr1 hr2 hw
  go_enter Try.func29, Try.ntmps29
  go_wp2_with fail
  refine HC1.out.mono ?_
  rintro e w1 ⟨r1, rfl, hr, rfl⟩
  rcases hr with rfl | ⟨g0, g1, g2, g3⟩
  · go_wp2_with fail
    go_ret
    exact ⟨_, rfl, .inl rfl, HB.out⟩
  · have hng : ¬ r1 < 0 := by omega
    have HCC := hid (HC2.out r1 g0 (by omega))
    clear HC2
    go_wp2_with fail
    refine HCC.out.mono ?_
    rintro e w2 ⟨r2, rfl, hr, hb2⟩
    have B2 := hid (HB.out.trans (hb2.mono HB.out.size))
    clear hb2
    rcases hr with rfl | ⟨f0, f1, f2, f3⟩
    · go_wp2_with fail
      go_ret
      exact ⟨_, rfl, .inl rfl, B2.out⟩
    · have hng2 : ¬ r2 < 0 := by omega
      go_wp2_with fail
      go_ret
      exact ⟨_, rfl, .inr ⟨f0, by omega, g2, g3, f2, f3⟩, B2.out⟩
end Go.Proofs.Ytphhgfgmlfdkiaa
