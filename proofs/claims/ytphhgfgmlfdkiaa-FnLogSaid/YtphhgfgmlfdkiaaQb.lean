/- A region whose order is left open and whose operations make memory, but only above a bound: one walk of the text's order. Plain law over the model's regions. -/
import Derived.Test.YtphhgfgmlfdkiaaPw
import Derived.Test.YtphhgfgmlfdkiaaGr
import Derived.Test.YtphhgfgmlfdkiaaQl
import Derived.Test.YtphhgfgmlfdkiaaTo
namespace Go.Proofs.Ytphhgfgmlfdkiaa
open Go.RowKit
set_option linter.unusedVariables false

theorem region_below {P : Program} {id : Nat} {Q : Exit → Act → World → Prop} {a : Act} {w : World} {l : List Oper} (M : Nat) (w0 : World) (hm : P.follows .mixedOrders = true) (hB : Region.lexB .any l.toArray = true) (hC : Below M w0 w)
    (h : wpQuiet P l.toArray (fun w' => Below M w0 w') (fun a' => ∀ w', Below M w0 w' → Q .normal a' w') l a) : (Code.region id l.toArray true).wp P Q a w :=
  wp_region_quiet (C := fun w' => Below M w0 w') hm hB hC.drew (by simpa using h)

set_option maxHeartbeats 400000 in
theorem part_head (q k n : Int) (w : World) (h1 : 0 ≤ q ∧ q ≤ 4294967295) (h2 : 0 ≤ k ∧ k ≤ 4294967295) (h3 : 0 ≤ n ∧ n ≤ 4294967295) :
    Calls Try.prog 54 #[.int .i64 q, .int .i64 k, .int .i64 n] w fun e w' => e = .returned (.string (strOfNums (wordBytes q) ++ strOfNums (wordBytes k) ++ strOfNums (wordBytes n))) ∧ Below w.heap.size w w' := by
  have HP := hid (fun x q (h0 : 0 ≤ x) (h1 : x ≤ 4294967295) => impl_putWord x q h0 h1)
  have e1 : q % 4294967296 = q := by omega
  have e2 : k % 4294967296 = k := by omega
  have e3 : n % 4294967296 = n := by omega
  go_enter Try.func54, Try.ntmps54
  go_wp2_with fail
  refine (HP.out _ _ (by omega) (by omega)).mono ?_
  rintro e w1 ⟨rfl, hb1⟩
  go_wp2_with fail
  refine (HP.out _ _ (by omega) (by omega)).mono ?_
  rintro e w2 ⟨rfl, hb2⟩
  replace hb2 := hb1.trans (hb2.mono hb1.size)
  clear hb1
  go_wp2_with fail
  refine (HP.out _ _ (by omega) (by omega)).mono ?_
  rintro e w3 ⟨rfl, hb3⟩
  replace hb3 := hb2.trans (hb3.mono hb2.size)
  clear hb2
  go_wp2_with fail
  go_ret
  exact ⟨rfl, hb3⟩

def parts (s : ByteArray) : Nat := max ((s.size + 115) / 116) 1
def partB (q : Int) (s : ByteArray) (k : Nat) : ByteArray := strOfNums (wordBytes q) ++ strOfNums (wordBytes k) ++ strOfNums (wordBytes (parts s)) ++ s.extract (k * 116) (min ((k + 1) * 116) s.size)
def partOk (q : Int) (s : ByteArray) : Bool := decide (1 ≤ q ∧ q ≤ 1000000000 ∧ s.size ≤ 60000)
def partsTo (q : Int) (s : ByteArray) (n : Nat) : List ByteArray := (List.range n).map (partB q s)
theorem partsTo_len (q : Int) (s : ByteArray) (n : Nat) : (partsTo q s n).length = n := by simp [partsTo]
theorem partsTo_at (q : Int) (s : ByteArray) (n i : Nat) (h : i < n) : sAt (partsTo q s n) i = partB q s i := by simp [partsTo, sAt, List.getD, h]
def partsP (q : Int) (s : ByteArray) : List ByteArray := if partOk q s then partsTo q s (parts s) else []

set_option maxRecDepth 100000 in
set_option maxHeartbeats 1600000 in
theorem impl_parts (q : Int) (s : ByteArray) (w : World) (hs : s.size ≤ 1048576) :
    Calls Try.prog 20 #[.int .i64 q, .string s] w fun e w' => ∃ v, e = .returned v ∧ OwG w' w.heap.size 9 1 v (partsP q s).length (encS (partsP q s)) ∧ Below w.heap.size w w' := by
  by_cases hok : 1 ≤ q ∧ q ≤ 1000000000 ∧ s.size ≤ 60000
  · have hp : partsP q s = partsTo q s (parts s) := by simp [partsP, partOk, hok]
    rw [hp]
    obtain ⟨h1, h2, h3⟩ := hok
    have d1 : ¬ q < 1 := by omega
    have d2 : ¬ 1000000000 < q := by omega
    have d3 : ¬ (60000 : Int) < (s.size : Int) := by omega
    go_enter Try.func20, Try.ntmps20
    have hN : (if ((s.size : Int) + 116 - 1) / 116 < 1 then (1 : Int) else ((s.size : Int) + 116 - 1) / 116) = (parts s : Int) := by
      unfold parts
      split <;> omega
    have hn : parts s ≤ 600 := by unfold parts; omega
    have HK := hid (show ∀ k, k < parts s → k * 116 ≤ s.size from fun k hk => by unfold parts at hk; omega)
    have HPH := hid (fun k (hk : k < parts s) (wz : World) => part_head q k (parts s) wz (by omega) (by omega) (by omega))
    have HPB := hid (show ∀ k, partB q s k = strOfNums (wordBytes q) ++ strOfNums (wordBytes k) ++ strOfNums (wordBytes (parts s)) ++ s.extract (k * 116) (min ((k + 1) * 116) s.size) from fun k => rfl)
    generalize parts s = n at *
    go_wp2_with (at_make; refine wpList_mkS w rfl _ _ 24 rfl w.heap.size 9 16 Try.underlying24 Try.info9 _ _ _ _ n rfl rfl rfl rfl (by omega) (by decide) (Nat.le_refl _) ?_)
    intro w0 hown0 hb0 _
    clear hN
    go_wp2
    go_loopw [30] (fun i wr => ∃ (k : Nat) (ys : List ByteArray), k ≤ n ∧ i = .int .i64 k ∧ OwG wr w.heap.size 9 1 (.slice (some ⟨w.heap.size, 0, none⟩) n n) n (encS ys) ∧ Hid (ys.length = n ∧ ∀ j, j < k → sAt ys j = partB q s j) ∧ Hid (Below w.heap.size w wr)) (fun i _ => n - (intOf i).toNat)
    case atStart => exact ⟨0, _, by omega, rfl, hown0, ⟨by simp, fun j hj => by omega⟩, hb0⟩
    case round =>
      obtain ⟨k, ys, hk, rfl, hown, hys, hb⟩ := hrel
      clear hown0 hb0
      by_cases hlt : k < n
      · have hlt' : (k : Int) < (n : Int) := by omega
        have z1 : IntKind.i64.wrap ((k : Int) * 116) = (k : Int) * 116 := by rw [IntKind.wrap_i64]; omega
        have z2 : IntKind.i64.wrap ((k : Int) + 1) = (k : Int) + 1 := by rw [IntKind.wrap_i64]; omega
        have z3 : IntKind.i64.wrap (((k : Int) + 1) * 116) = ((k : Int) + 1) * 116 := by rw [IntKind.wrap_i64]; omega
        have hkm := HK.out k hlt
        have HPK := HPB.out k
        have z5 : min ((k + 1) * 116) s.size ≤ s.size := by omega
        have z6 : (k : Int) * 116 ≤ (min ((k + 1) * 116) s.size : Nat) := by omega
        have z4 : (if (s.size : Int) < ((k : Int) + 1) * 116 then (s.size : Int) else ((k : Int) + 1) * 116) = ((min ((k + 1) * 116) s.size : Nat) : Int) := by split <;> omega
        generalize min ((k + 1) * 116) s.size = m at *
        have z7 : ((k : Int) * 116).toNat = k * 116 := by omega
        have z8 : (m : Int) ≤ (s.size : Int) := by omega
        have z9 : (0 : Int) ≤ (k : Int) * 116 := by omega
        have z10 : ¬ 9223372036854775807 < (strOfNums (wordBytes q)).size + (strOfNums (wordBytes (k : Int))).size + (strOfNums (wordBytes (n : Int))).size + (min m s.size - k * 116) := by
          rw [strOfNums_size, strOfNums_size, strOfNums_size]
          simp only [wordBytes, List.length_cons, List.length_nil]
          omega
        replace HPK := hid HPK
        clear hkm z5
        go_wp2_with fail
        refine region_last (fun w' => Below wr.heap.size wr w') (by kernel_rfl) (by kernel_rfl) (by kernel_rfl) ((Below.refl _ _).drew) ?_
        simp only [List.dropLast]
        repeat
          refine wpQuiet_step (fun K hK => ?_)
          go_simp
          first
            | (refine ⟨_, fun _ _ => rfl, hK _ ?_⟩; clear hK K)
            | (apply Exists.intro; refine ⟨fun wz hwz => ?_, hK _ ?_⟩; (go_at_call 54; exact (HPH.out k hlt wz).mono (fun _ _ h => ⟨h.1, hwz.trans (h.2.mono hwz.size)⟩)); clear hK K)
        refine wpQuiet_nil ?_
        intro wz hwz
        clear z1 z2 z3 z4 z6 z7 z8 z9 z10
        have HOZ := hid (hown.below hwz)
        have HL := hid hys.out.1
        obtain ⟨b', off', e', hold⟩ := HOZ.out.rw.atS k (by have := hys.out.1; omega)
        cases e'
        rw [Nat.zero_add] at hold
        have hfree := HOZ.out.free k
        have hnew := HOZ.out.store k (.string (partB q s k))
        rw [encS_set] at hnew
        have HNEW := hid hnew
        have HBZ := hid ((hb.out.trans (hwz.mono hb.out.size)).setCell (p := ⟨w.heap.size, k, none⟩) (Nat.le_refl _) (.string (partB q s k)))
        clear hnew HOZ hown
        rw [HPK.out] at HNEW HBZ
        generalize strOfNums (wordBytes q) ++ strOfNums (wordBytes (k : Int)) ++ strOfNums (wordBytes (n : Int)) ++ s.extract (k * 116) m = X at *
        refine wpOp_step rfl (fun K hK => ?_)
        go_simp
        refine hK _ _ ?_
        clear hK K
        go_wp2_with fail
        go_roundw
        case rel =>
          refine ⟨k + 1, _, by omega, by go_num, HNEW.out, ⟨by simp; exact hys.out.1, fun j hj => ?_⟩, HBZ.out⟩
          by_cases e : j = k
          · subst e
            rw [sAt_set_same _ _ _ (by rw [HL.out]; exact hlt), HPK.out]
          · rw [sAt_set_ne _ _ _ _ (fun h => e h.symm), hys.out.2 j (by omega)]
        case measure => simp [intOf]; omega
      · obtain rfl : k = n := by omega
        have hxy : ys = partsTo q s k := s_ext (by rw [hys.out.1]; simp [partsTo]) (fun i hi => by rw [hys.out.2 i (by rw [← hys.out.1]; exact hi), partsTo_at _ _ _ _ (by rw [← hys.out.1]; exact hi)])
        have HO := hid hown
        rw [hxy] at HO
        clear hown
        go_wp2_with fail
        go_ret
        exact ⟨_, rfl, by rw [partsTo_len]; exact HO.out, hb.out⟩
  · have hp : partsP q s = [] := by simp [partsP, partOk, hok]
    rw [hp]
    have hd : q < 1 ∨ 1000000000 < q ∨ (60000 : Int) < (s.size : Int) := by omega
    have HE := hid (OwG.empty w w.heap.size 9 1 (Nat.le_refl _))
    rcases hd with hd | hd | hd
    · go_enter Try.func20, Try.ntmps20
      go_wp2_with fail
      go_ret
      exact ⟨_, rfl, HE.out, (Below.refl _ _).alloc (Nat.le_refl _) _⟩
    · have d1 : ¬ q < 1 := by omega
      go_enter Try.func20, Try.ntmps20
      go_wp2_with fail
      go_ret
      exact ⟨_, rfl, HE.out, (Below.refl _ _).alloc (Nat.le_refl _) _⟩
    · by_cases d1 : q < 1
      · go_enter Try.func20, Try.ntmps20
        go_wp2_with fail
        go_ret
        exact ⟨_, rfl, HE.out, (Below.refl _ _).alloc (Nat.le_refl _) _⟩
      · by_cases d2 : 1000000000 < q
        all_goals
          go_enter Try.func20, Try.ntmps20
          go_wp2_with fail
          go_ret
          exact ⟨_, rfl, HE.out, (Below.refl _ _).alloc (Nat.le_refl _) _⟩
end Go.Proofs.Ytphhgfgmlfdkiaa
