/- Contracts of slices.Equal over texts and of DiskLike, of the program and of the specification. -/
import Derived.Test.YtlphojlccecnhaaBh
import Derived.Test.YtlphojlccecnhaaRd
import Derived.Test.YtlphojlccecnhaaRi
namespace Go.Proofs.Ytlphojlccecnhaa
open Go.RowKit
set_option linter.unusedVariables false

theorem loop_eq (bs : ByteArray) : ∀ k i r, bs.size - i = k → ByteArray.toList.loop bs i r = r.reverse ++ bs.data.toList.drop i := by
  intro k
  induction k with
  | zero =>
    intro i r h
    rw [ByteArray.toList.loop]
    have : ¬ i < bs.size := by omega
    rw [if_neg this, List.drop_of_length_le (by have : bs.data.size = bs.size := rfl; simp; omega)]
    simp
  | succ k ih =>
    intro i r h
    rw [ByteArray.toList.loop]
    have hi : i < bs.size := by omega
    rw [if_pos hi, ih (i + 1) _ (by omega)]
    have hd : i < bs.data.toList.length := by have : bs.data.size = bs.size := rfl; simp; omega
    rw [List.drop_eq_getElem_cons hd]
    have hd' : i < bs.data.size := hi
    have : bs.get! i = bs.data.toList[i] := by
      unfold ByteArray.get!
      simp
      exact getElem!_pos bs.data i hd'
    simp [this]
theorem toList_inj {a b : ByteArray} (h : a.toList = b.toList) : a = b := by
  unfold ByteArray.toList at h
  rw [loop_eq a _ 0 [] rfl, loop_eq b _ 0 [] rfl] at h
  simp at h
  obtain ⟨⟨l⟩⟩ := a
  obtain ⟨⟨m⟩⟩ := b
  simp at h
  rw [h]
theorem ne_list {a b : ByteArray} (h : a ≠ b) : (a.toList == b.toList) = false := by
  cases h2 : (a.toList == b.toList)
  · rfl
  · exact absurd (toList_inj (eq_of_beq h2)) h
/-- The answer says whether the texts are alike. -/
def Iq (r : Bool) (P Q : List ByteArray) : Prop := r = true ↔ P = Q

set_option maxHeartbeats 1600000 in
theorem equal_s (ao bo : Option Addr) (cap cap' : Nat) (P Q : List ByteArray) (w : World) (hp : P.length ≤ 1048576) (hq : Q.length ≤ 1048576) (ha : Rw w ao (encS P)) (hb : Rw w bo (encS Q)) :
    Calls Try.prog 44 #[.slice ao P.length cap, .slice bo Q.length cap'] w fun e w' => ∃ r, e = .returned (.bool r) ∧ Iq r P Q ∧ Below w.heap.size w w' := by
  have HA := hid ha
  have HB := hid hb
  clear ha hb
  by_cases hl : P.length = Q.length
  · have HY := hid (fun (h : ∀ j, j < P.length → sAt P j = sAt Q j) => (show Iq true P Q from ⟨fun _ => s_ext hl h, fun _ => rfl⟩))
    have HX := hid (fun j (h : sAt P j ≠ sAt Q j) => (show Iq false P Q from ⟨fun e => Bool.noConfusion e, fun e => absurd (by rw [e]) h⟩))
    generalize hN : P.length = n at *
    have hN2 : Q.length = n := by omega
    have HN := hid hN
    have HM := hid hN2
    rw [hN2]
    clear hN hN2 hl
    go_enter Try.func44, Try.ntmps44
    go_wp2_with fail
    go_loopw [13] (fun i wr => ∃ k : Nat, k ≤ n ∧ i = .int .i64 k ∧ Hid (∀ j, j < k → sAt P j = sAt Q j) ∧ ∃ q, wr = w.drewN q) (fun i _ => n - (intOf i).toNat)
    case atStart => exact ⟨0, by omega, rfl, fun j hj => by omega, 0, rfl⟩
    case round =>
      obtain ⟨k, hk, rfl, hs, q, rfl⟩ := hrel
      by_cases hlt : k < n
      · obtain ⟨b, off, rfl, hc⟩ := HA.out.atS k (by rw [HN.out]; exact hlt)
        obtain ⟨b', off', rfl, hc'⟩ := HB.out.atS k (by rw [HM.out]; exact hlt)
        have hlt' : (k : Int) < (n : Int) := by omega
        by_cases he : sAt P k = sAt Q k
        · have HPQ : Hid (∀ z, z = k → sAt P z = sAt Q z) := hid (fun z e => by subst e; exact he)
          rw [← he] at hc'
          clear he
          generalize sAt P k = X at *
          go_wp2_with fail
          go_quiet (fail)
          go_wp2_with fail
          go_roundw
          case rel =>
            refine ⟨k + 1, by omega, by go_num, fun j hj => ?_, _, rfl⟩
            by_cases e : j = k
            · subst e
              exact HPQ.out j rfl
            · exact hs.out j (by omega)
          case measure => simp [intOf]; omega
        · have HNO := hid (HX.out k he)
          have hne := ne_list he
          generalize sAt P k = X at *
          generalize sAt Q k = Y at *
          go_wp2_with fail
          go_quiet (fail)
          go_wp2_with fail
          go_ret
          exact ⟨_, rfl, HNO.out, belowN (belowN (Below.refl _ _) _) _⟩
      · obtain rfl : k = n := by omega
        have HYY := hid (HY.out hs.out)
        go_wp2_with fail
        go_ret
        exact ⟨_, rfl, HYY.out, belowN (Below.refl _ _) _⟩
  · have HX : Hid (Iq false P Q) := hid ⟨fun e => Bool.noConfusion e, fun e => absurd (by rw [e]) hl⟩
    have hl' : ((P.length : Int) != (Q.length : Int)) = true := by simp; omega
    clear hl
    go_enter Try.func44, Try.ntmps44
    go_wp2_with fail
    go_ret
    exact ⟨_, rfl, HX.out, Below.refl _ _⟩


/-- The answer says whether both disks are right and are read alike. -/
def LkB (r : Bool) (S : List ByteArray) (L : List (Int × ByteArray)) (S' : List ByteArray) (L' : List (Int × ByteArray)) : Prop := r = true ↔ (okB S L = true ∧ okB S' L' = true ∧ raL (mpTo L L.length) S = raL (mpTo L' L'.length) S')
theorem LkB.same {r r' : Bool} {S : List ByteArray} {L : List (Int × ByteArray)} {S' : List ByteArray} {L' : List (Int × ByteArray)} (h : LkB r S L S' L') (h' : LkB r' S L S' L') : r = r' := by
  unfold LkB at h h'
  cases r <;> cases r' <;> simp_all
theorem LkB.no1 {S : List ByteArray} {L : List (Int × ByteArray)} {S' : List ByteArray} {L' : List (Int × ByteArray)} (h : okB S L = false) : LkB false S L S' L' := ⟨fun e => Bool.noConfusion e, fun e => by rw [h] at e; exact Bool.noConfusion e.1⟩
theorem LkB.no2 {S : List ByteArray} {L : List (Int × ByteArray)} {S' : List ByteArray} {L' : List (Int × ByteArray)} (h : okB S' L' = false) : LkB false S L S' L' := ⟨fun e => Bool.noConfusion e, fun e => by rw [h] at e; exact Bool.noConfusion e.2.1⟩
theorem LkB.no3 {S : List ByteArray} {L : List (Int × ByteArray)} {S' : List ByteArray} {L' : List (Int × ByteArray)} (h : S.length ≠ S'.length) : LkB false S L S' L' := ⟨fun e => Bool.noConfusion e, fun e => absurd (by have := congrArg List.length e.2.2; rw [raL_len, raL_len] at this; exact this) h⟩
theorem LkB.no4 {S : List ByteArray} {L : List (Int × ByteArray)} {S' : List ByteArray} {L' : List (Int × ByteArray)} {j : Nat} (hj : j < S.length) (hl : S.length = S'.length) (h : rdP S L j ≠ rdP S' L' j) : LkB false S L S' L' := ⟨fun e => Bool.noConfusion e, fun e => absurd (by
  have h1 := raL_at (mpTo L L.length) S j hj
  have h2 := raL_at (mpTo L' L'.length) S' j (by omega)
  rw [e.2.2, h2] at h1
  exact h1.symm) h⟩
theorem LkB.yes {S : List ByteArray} {L : List (Int × ByteArray)} {S' : List ByteArray} {L' : List (Int × ByteArray)} (h1 : okB S L = true) (h2 : okB S' L' = true) (hl : S.length = S'.length) (h : ∀ j, j < S.length → rdP S L j = rdP S' L' j) : LkB true S L S' L' := ⟨fun _ => ⟨h1, h2, s_ext (by rw [raL_len, raL_len, hl]) (fun i hi => by
  rw [raL_len] at hi
  rw [raL_at _ _ _ hi, raL_at _ _ _ (by omega)]
  exact h i hi)⟩, fun _ => rfl⟩
theorem LkB.iq {r : Bool} {S : List ByteArray} {L : List (Int × ByteArray)} {S' : List ByteArray} {L' : List (Int × ByteArray)} (h1 : okB S L = true) (h2 : okB S' L' = true) (h : Iq r (raL (mpTo L L.length) S) (raL (mpTo L' L'.length) S')) : LkB r S L S' L' := ⟨fun e => ⟨h1, h2, h.1 e⟩, fun e => h.2 e.2.2⟩

end Go.Proofs.Ytlphojlccecnhaa
