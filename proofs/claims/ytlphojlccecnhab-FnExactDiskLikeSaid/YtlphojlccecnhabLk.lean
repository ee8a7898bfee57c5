/- Contracts of slices.Equal over texts and of DiskLike, of the program and of the specification. -/
import Derived.Test.YtlphojlccecnhabBh
import Derived.Test.YtlphojlccecnhabRl
import Derived.Test.YtlphojlccecnhabRi
namespace Go.Proofs.Ytlphojlccecnhab
open Go.RowKit
set_option linter.unusedVariables false

theorem loop_eq (bs : ByteArray) : ∀ k i r, bs.size - i = k → ByteArray.toList.loop bs i r = r.reverse ++ bs.data.toList.drop i := by
  intro k
  induction k with
  | zero =>
    intro i r h
    rw [ByteArray.toList.loop]
    have : ¬ i < bs.size := by omega
    rw [if_neg this, List.drop_of_length_le (by have : bs.data.size = bs.size := rfl; simp; omega)]
    simp
  | succ k ih =>
    intro i r h
    rw [ByteArray.toList.loop]
    have hi : i < bs.size := by omega
    rw [if_pos hi, ih (i + 1) _ (by omega)]
    have hd : i < bs.data.toList.length := by have : bs.data.size = bs.size := rfl; simp; omega
    rw [List.drop_eq_getElem_cons hd]
    have hd' : i < bs.data.size := hi
    have : bs.get! i = bs.data.toList[i] := by
      unfold ByteArray.get!
      simp
      exact getElem!_pos bs.data i hd'
    simp [this]
theorem toList_inj {a b : ByteArray} (h : a.toList = b.toList) : a = b := by
  unfold ByteArray.toList at h
  rw [loop_eq a _ 0 [] rfl, loop_eq b _ 0 [] rfl] at h
  simp at h
  obtain ⟨⟨l⟩⟩ := a
  obtain ⟨⟨m⟩⟩ := b
  simp at h
  rw [h]
theorem ne_list {a b : ByteArray} (h : a ≠ b) : (a.toList == b.toList) = false := by
  cases h2 : (a.toList == b.toList)
  · rfl
  · exact absurd (toList_inj (eq_of_beq h2)) h
/-- The answer says whether the texts are alike. -/
def Iq (r : Bool) (P Q : List ByteArray) : Prop := r = true ↔ P = Q

set_option maxHeartbeats 1600000 in
theorem equal_s (ao bo : Option Addr) (cap cap' : Nat) (P Q : List ByteArray) (w : World) (hp : P.length ≤ 1048576) (hq : Q.length ≤ 1048576) (ha : Rw w ao (encS P)) (hb : Rw w bo (encS Q)) :
    Calls Try.prog 38 #[.slice ao P.length cap, .slice bo Q.length cap'] w fun e w' => ∃ r, e = .returned (.bool r) ∧ Iq r P Q ∧ Below w.heap.size w w' := by
  have HA := hid ha
  have HB := hid hb
  clear ha hb
  by_cases hl : P.length = Q.length
  · have HY := hid (fun (h : ∀ j, j < P.length → sAt P j = sAt Q j) => (show Iq true P Q from ⟨fun _ => s_ext hl h, fun _ => rfl⟩))
    have HX := hid (fun j (h : sAt P j ≠ sAt Q j) => (show Iq false P Q from ⟨fun e => Bool.noConfusion e, fun e => absurd (by rw [e]) h⟩))
    generalize hN : P.length = n at *
    have hN2 : Q.length = n := by omega
    have HN := hid hN
    have HM := hid hN2
    rw [hN2]
    clear hN hN2 hl
    go_enter Try.func38, Try.ntmps38
    go_wp2_with fail
    go_loopw [13] (fun i wr => ∃ k : Nat, k ≤ n ∧ i = .int .i64 k ∧ Hid (∀ j, j < k → sAt P j = sAt Q j) ∧ ∃ q, wr = w.drewN q) (fun i _ => n - (intOf i).toNat)
    case atStart => exact ⟨0, by omega, rfl, fun j hj => by omega, 0, rfl⟩
    case round =>
      obtain ⟨k, hk, rfl, hs, q, rfl⟩ := hrel
      by_cases hlt : k < n
      · obtain ⟨b, off, rfl, hc⟩ := HA.out.atS k (by rw [HN.out]; exact hlt)
        obtain ⟨b', off', rfl, hc'⟩ := HB.out.atS k (by rw [HM.out]; exact hlt)
        have hlt' : (k : Int) < (n : Int) := by omega
        by_cases he : sAt P k = sAt Q k
        · have HPQ : Hid (∀ z, z = k → sAt P z = sAt Q z) := hid (fun z e => by subst e; exact he)
          rw [← he] at hc'
          clear he
          generalize sAt P k = X at *
          go_wp2_with fail
          go_quiet (fail)
          go_wp2_with fail
          go_roundw
          case rel =>
            refine ⟨k + 1, by omega, by go_num, fun j hj => ?_, _, rfl⟩
            by_cases e : j = k
            · subst e
              exact HPQ.out j rfl
            · exact hs.out j (by omega)
          case measure => simp [intOf]; omega
        · have HNO := hid (HX.out k he)
          have hne := ne_list he
          generalize sAt P k = X at *
          generalize sAt Q k = Y at *
          go_wp2_with fail
          go_quiet (fail)
          go_wp2_with fail
          go_ret
          exact ⟨_, rfl, HNO.out, belowN (belowN (Below.refl _ _) _) _⟩
      · obtain rfl : k = n := by omega
        have HYY := hid (HY.out hs.out)
        go_wp2_with fail
        go_ret
        exact ⟨_, rfl, HYY.out, belowN (Below.refl _ _) _⟩
  · have HX : Hid (Iq false P Q) := hid ⟨fun e => Bool.noConfusion e, fun e => absurd (by rw [e]) hl⟩
    have hl' : ((P.length : Int) != (Q.length : Int)) = true := by simp; omega
    clear hl
    go_enter Try.func38, Try.ntmps38
    go_wp2_with fail
    go_ret
    exact ⟨_, rfl, HX.out, Below.refl _ _⟩


/-- The answer says whether both disks are right and are read alike. -/
def LkB (r : Bool) (S : List ByteArray) (L : List (Int × ByteArray)) (S' : List ByteArray) (L' : List (Int × ByteArray)) : Prop := r = true ↔ (okB S L = true ∧ okB S' L' = true ∧ raL (mpTo L L.length) S = raL (mpTo L' L'.length) S')
theorem LkB.same {r r' : Bool} {S : List ByteArray} {L : List (Int × ByteArray)} {S' : List ByteArray} {L' : List (Int × ByteArray)} (h : LkB r S L S' L') (h' : LkB r' S L S' L') : r = r' := by
  unfold LkB at h h'
  cases r <;> cases r' <;> simp_all
theorem LkB.no1 {S : List ByteArray} {L : List (Int × ByteArray)} {S' : List ByteArray} {L' : List (Int × ByteArray)} (h : okB S L = false) : LkB false S L S' L' := ⟨fun e => Bool.noConfusion e, fun e => by rw [h] at e; exact Bool.noConfusion e.1⟩
theorem LkB.no2 {S : List ByteArray} {L : List (Int × ByteArray)} {S' : List ByteArray} {L' : List (Int × ByteArray)} (h : okB S' L' = false) : LkB false S L S' L' := ⟨fun e => Bool.noConfusion e, fun e => by rw [h] at e; exact Bool.noConfusion e.2.1⟩
theorem LkB.no3 {S : List ByteArray} {L : List (Int × ByteArray)} {S' : List ByteArray} {L' : List (Int × ByteArray)} (h : S.length ≠ S'.length) : LkB false S L S' L' := ⟨fun e => Bool.noConfusion e, fun e => absurd (by have := congrArg List.length e.2.2; rw [raL_len, raL_len] at this; exact this) h⟩
theorem LkB.no4 {S : List ByteArray} {L : List (Int × ByteArray)} {S' : List ByteArray} {L' : List (Int × ByteArray)} {j : Nat} (hj : j < S.length) (hl : S.length = S'.length) (h : rdP S L j ≠ rdP S' L' j) : LkB false S L S' L' := ⟨fun e => Bool.noConfusion e, fun e => absurd (by
  have h1 := raL_at (mpTo L L.length) S j hj
  have h2 := raL_at (mpTo L' L'.length) S' j (by omega)
  rw [e.2.2, h2] at h1
  exact h1.symm) h⟩
theorem LkB.yes {S : List ByteArray} {L : List (Int × ByteArray)} {S' : List ByteArray} {L' : List (Int × ByteArray)} (h1 : okB S L = true) (h2 : okB S' L' = true) (hl : S.length = S'.length) (h : ∀ j, j < S.length → rdP S L j = rdP S' L' j) : LkB true S L S' L' := ⟨fun _ => ⟨h1, h2, s_ext (by rw [raL_len, raL_len, hl]) (fun i hi => by
  rw [raL_len] at hi
  rw [raL_at _ _ _ hi, raL_at _ _ _ (by omega)]
  exact h i hi)⟩, fun _ => rfl⟩
theorem LkB.iq {r : Bool} {S : List ByteArray} {L : List (Int × ByteArray)} {S' : List ByteArray} {L' : List (Int × ByteArray)} (h1 : okB S L = true) (h2 : okB S' L' = true) (h : Iq r (raL (mpTo L L.length) S) (raL (mpTo L' L'.length) S')) : LkB r S L S' L' := ⟨fun e => ⟨h1, h2, h.1 e⟩, fun e => h.2 e.2.2⟩

set_option maxRecDepth 100000 in
set_option maxHeartbeats 3200000 in
theorem spec_like (v v' : Value) (S : List ByteArray) (L : List (Int × ByteArray)) (S' : List ByteArray) (L' : List (Int × ByteArray)) (w : World) (hn1 : S.length ≤ 1048576) (hn2 : S'.length ≤ 1048576) (hv : DV w v S L) (hv' : DV w v' S' L') :
    Calls Try.prog 18 #[v, v'] w fun e w' => ∃ r, e = .returned (.bool r) ∧ LkB r S L S' L' ∧ Below w.heap.size w w' := by
  obtain ⟨a, c, a', c', e0, r1, r2⟩ := id hv
  obtain ⟨b, d, b', d', e1, s1, s2⟩ := id hv'
  subst e0
  subst e1
  obtain ⟨n1, n2, n3⟩ := new_two w [.slice a S.length c, .slice a' L.length c'] [.slice b S'.length d, .slice b' L'.length d'] 29 29
  have X := hid n1
  have Y := hid n2
  have B := hid n3
  have VX := hid (hv.below (Nat.le_refl _) n3)
  have VY := hid (hv'.below (Nat.le_refl _) n3)
  have HOK := hid (spec_ok _ S L _ VX.out)
  have HOK2 := hid (fun q (hq : DV q (.agg #[.slice b S'.length d, .slice b' L'.length d']) S' L') => spec_ok _ S' L' q hq)
  have q0 := X.out.cell (i := 0) rfl
  have q1 := X.out.cell (i := 1) rfl
  clear n1 n2 n3 r1 r2 s1 s2 hv hv'
  cases hO1 : okB S L with
  | false =>
    have HL := hid (LkB.no1 (S' := S') (L' := L') hO1)
    rw [hO1] at HOK
    go_enter Try.func18, Try.ntmps18
    go_wp2_with (go_at_call 23; refine HOK.out.mono ?_; generalize (w.alloc _).alloc _ = wa at *; rintro e w1 ⟨rfl, hb⟩; replace B := hid (B.out.trans (hb.mono B.out.size)); clear hb)
    go_ret
    exact ⟨_, rfl, HL.out, B.out⟩
  | true =>
    rw [hO1] at HOK
    cases hO2 : okB S' L' with
    | false =>
      have HL := hid (LkB.no2 (S := S) (L := L) hO2)
      rw [hO2] at HOK2
      go_enter Try.func18, Try.ntmps18
      go_wp2_with (first
        | (go_at_call 23; refine HOK.out.mono ?_; generalize (w.alloc _).alloc _ = wa at *; rintro e w1 ⟨rfl, hb⟩; replace B := hid (B.out.trans (hb.mono B.out.size)); replace Y := hid (Y.out.below hb Y.out.lt); replace VY := hid (VY.out.below (Nat.le_refl _) hb); have y0 := Y.out.cell (i := 0) rfl; have y1 := Y.out.cell (i := 1) rfl; clear hb q0 q1 HOK)
        | (go_at_call 23; refine (HOK2.out _ VY.out).mono ?_; rintro e w2 ⟨rfl, hb⟩; replace B := hid (B.out.trans (hb.mono B.out.size)); clear hb y0 y1))
      go_ret
      exact ⟨_, rfl, HL.out, B.out⟩
    | true =>
      rw [hO2] at HOK2
      have hk1 := okB_iff hO1
      have hk2 := okB_iff hO2
      have hm1 : S.length ≤ 1500 := hk1.1.1
      have hm2 : L.length ≤ 3000 := hk1.1.2
      have hm3 : S'.length ≤ 1500 := hk2.1.1
      have hm4 : L'.length ≤ 3000 := hk2.1.2
      clear hk1 hk2
      by_cases hl : S.length = S'.length
      · have HY := hid (fun h => LkB.yes hO1 hO2 hl h)
        have HX := hid (fun j (hj : j < S.length) h => LkB.no4 (L := L) (L' := L') hj hl h)
        have hl' : ((S.length : Int) != (S'.length : Int)) = false := by simp; omega
        have HLL := hid hl
        generalize hNn : S.length = n at *
        generalize hNm : S'.length = n' at *
        have HN := hid hNn
        have HM := hid hNm
        clear hNn hNm
        subst hl
        go_enter Try.func18, Try.ntmps18
        go_wp2_with (first
          | (go_at_call 23; refine HOK.out.mono ?_; generalize (w.alloc _).alloc _ = wa at *; rintro e w1 ⟨rfl, hb⟩; replace B := hid (B.out.trans (hb.mono B.out.size)); replace X := hid (X.out.below hb X.out.lt); replace VX := hid (VX.out.below (Nat.le_refl _) hb); replace Y := hid (Y.out.below hb Y.out.lt); replace VY := hid (VY.out.below (Nat.le_refl _) hb); have y0 := Y.out.cell (i := 0) rfl; have y1 := Y.out.cell (i := 1) rfl; clear hb q0 q1 HOK)
          | (go_at_call 23; refine (HOK2.out _ VY.out).mono ?_; rintro e w2 ⟨rfl, hb⟩; replace B := hid (B.out.trans (hb.mono B.out.size)); replace X := hid (X.out.below hb X.out.lt); replace VX := hid (VX.out.below (Nat.le_refl _) hb); replace Y := hid (Y.out.below hb Y.out.lt); replace VY := hid (VY.out.below (Nat.le_refl _) hb); clear hb y0 y1; have y0 := Y.out.cell (i := 0) rfl; have y1 := Y.out.cell (i := 1) rfl; have q0 := X.out.cell (i := 0) rfl; have q1 := X.out.cell (i := 1) rfl))
        rename_i wa wb
        clear y0 y1 q0 q1
        go_loopw [5] (fun i wr => ∃ k : Nat, k ≤ n ∧ i = .int .i64 k ∧ Hid (∀ j : Nat, j < k → rdP S L j = rdP S' L' j) ∧ Hid (Below w2.heap.size w2 wr)) (fun i _ => n - (intOf i).toNat)
        case atStart => exact ⟨0, by omega, rfl, fun j hj => by omega, Below.refl _ _⟩
        case round =>
          obtain ⟨k, hk, rfl, hs, hbr⟩ := hrel
          have Xr := hid (X.out.below hbr.out X.out.lt)
          have Yr := hid (Y.out.below hbr.out Y.out.lt)
          have q0 := Xr.out.cell (i := 0) rfl
          have q1 := Xr.out.cell (i := 1) rfl
          have y0 := Yr.out.cell (i := 0) rfl
          have y1 := Yr.out.cell (i := 1) rfl
          by_cases hlt : k < n
          · have hlt' : (k : Int) < (n : Int) := by omega
            have HRa := hid (fun q (hq : Below wr.heap.size wr q) => spec_l10read _ S L k q (by rw [HN.out]; exact hm1) hm2 (by rw [HN.out]; exact hlt) ((VX.out.below (Nat.le_refl _) hbr.out).below (Nat.le_refl _) hq))
            have HRb := hid (fun q (hq : Below wr.heap.size wr q) => spec_l10read _ S' L' k q (by rw [HM.out]; exact hm3) hm4 (by rw [HM.out]; exact hlt) ((VY.out.below (Nat.le_refl _) hbr.out).below (Nat.le_refl _) hq))
            have HQ0 := hid (fun q (hq : Below wr.heap.size wr q) => (Yr.out.below hq Yr.out.lt).cell (i := 0) rfl)
            have HQ1 := hid (fun q (hq : Below wr.heap.size wr q) => (Yr.out.below hq Yr.out.lt).cell (i := 1) rfl)
            have HPQ : Hid (rdP S L k = rdP S' L' k → ∀ z : Nat, z = k → rdP S L z = rdP S' L' z) := hid (fun h z e => by subst e; exact h)
            have HNO := hid (fun h => HX.out k hlt h)
            generalize rdP S L k = P at *
            generalize rdP S' L' k = Q at *
            have hdec : ∃ r, r = (P.toList == Q.toList) := ⟨_, rfl⟩
            go_wp2_with fail
            go_cut [36] from 30 to 36 (fun s wx => s = .bool (!(P.toList == Q.toList)) ∧ Below wr.heap.size wr wx)
            case first =>
              go_region_with (first
                | (go_at_call 36; have hz := hc7; refine (HRb.out _ ?_).mono ?_; · first | exact hc7 | exact hc7.drew
                   rintro e w8 ⟨rfl, hb8⟩
                   have hc8 : Below wr.heap.size wr w8 := by first | exact hc7.trans (hb8.mono hc7.size) | exact hc7.drew.trans (hb8.mono hc7.drew.size))
                | (go_at_call 36; refine (HRa.out _ ?_).mono ?_; · first | exact Below.refl _ _ | exact (Below.refl _ _).drew
                   rintro e w7 ⟨rfl, hb7⟩
                   have hc7 : Below wr.heap.size wr w7 := by first | exact hb7 | exact Below.trans (Below.refl _ _).drew hb7
                   have r0 := HQ0.out w7 hc7
                   have r1 := HQ1.out w7 hc7))
              all_goals
                go_wp2_with fail
                go_meet
                first | exact ⟨rfl, hc8⟩ | exact ⟨rfl, hc8.drew⟩ | exact ⟨by simp, hc8⟩ | exact ⟨by simp, hc8.drew⟩
            case rest =>
              obtain ⟨rfl, hb9⟩ := hcut
              have B9 := hid (hbr.out.trans (hb9.mono hbr.out.size))
              clear hb9 q0 q1 y0 y1
              by_cases hPQ : P = Q
              · have HZ := hid (HPQ.out hPQ)
                have hd : (P.toList == Q.toList) = true := by rw [hPQ]; simp
                rw [hd]
                go_wp2_with fail
                go_roundw
                case rel =>
                  refine ⟨k + 1, by omega, by go_num, fun j hj => ?_, B9.out⟩
                  by_cases e : j = k
                  · exact HZ.out j e
                  · exact hs.out j (by omega)
                case measure => simp [intOf]; omega
              · have HNN := hid (HNO.out hPQ)
                rw [ne_list hPQ]
                go_wp2_with fail
                go_ret
                exact ⟨_, rfl, HNN.out, B.out.trans (B9.out.mono B.out.size)⟩
          · obtain rfl : k = n := by omega
            have HZ := hid (HY.out (fun j hj => hs.out j hj))
            go_wp2_with fail
            go_ret
            exact ⟨_, rfl, HZ.out, B.out.trans (hbr.out.mono B.out.size)⟩
      · have HL := hid (LkB.no3 (L := L) (L' := L') hl)
        have hl' : ((S.length : Int) != (S'.length : Int)) = true := by simp; omega
        clear hl
        go_enter Try.func18, Try.ntmps18
        go_wp2_with (first
          | (go_at_call 23; refine HOK.out.mono ?_; generalize (w.alloc _).alloc _ = wa at *; rintro e w1 ⟨rfl, hb⟩; replace B := hid (B.out.trans (hb.mono B.out.size)); replace X := hid (X.out.below hb X.out.lt); replace Y := hid (Y.out.below hb Y.out.lt); replace VY := hid (VY.out.below (Nat.le_refl _) hb); have y0 := Y.out.cell (i := 0) rfl; have y1 := Y.out.cell (i := 1) rfl; clear hb q0 q1 HOK)
          | (go_at_call 23; refine (HOK2.out _ VY.out).mono ?_; rintro e w2 ⟨rfl, hb⟩; replace B := hid (B.out.trans (hb.mono B.out.size)); replace X := hid (X.out.below hb X.out.lt); replace Y := hid (Y.out.below hb Y.out.lt); clear hb y0 y1; have y0 := Y.out.cell (i := 0) rfl; have y1 := Y.out.cell (i := 1) rfl; have q0 := X.out.cell (i := 0) rfl; have q1 := X.out.cell (i := 1) rfl))
        go_ret
        exact ⟨_, rfl, HL.out, B.out⟩

end Go.Proofs.Ytlphojlccecnhab
