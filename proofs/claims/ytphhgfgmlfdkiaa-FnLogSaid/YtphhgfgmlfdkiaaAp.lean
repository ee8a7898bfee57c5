/- The contract of LogAppend, of the program. -/
import Derived.Test.YtphhgfgmlfdkiaaWl
import Derived.Test.YtphhgfgmlfdkiaaPl
namespace Go.Proofs.Ytphhgfgmlfdkiaa
open Go.RowKit
set_option linter.unusedVariables false

/-- The writes of parts from a sector on. -/
def apW (t : Int) (T : List ByteArray) : List (Int × ByteArray) := (List.range T.length).map fun (k : Nat) => (t + (k : Int), sAt T k)
/-- A record may come behind. -/
def apB (S : List ByteArray) (L : List (Int × ByteArray)) (t : Int) (T : List ByteArray) : Bool := okB S L && (decide (0 < T.length) && (decide (0 ≤ t) && (decide (t + T.length ≤ S.length) && decide (T.length + L.length ≤ 3000))))
def apL (S : List ByteArray) (L : List (Int × ByteArray)) (t : Int) (T : List ByteArray) : List (Int × ByteArray) := if apB S L t T = true then L ++ apW t T else L
def apN (S : List ByteArray) (L : List (Int × ByteArray)) (t : Int) (T : List ByteArray) : Int := if apB S L t T = true then t + T.length else t
theorem apW_len (t : Int) (T : List ByteArray) : (apW t T).length = T.length := by simp [apW]
theorem apW_at (t : Int) (T : List ByteArray) (k : Nat) (h : k < T.length) : lAt (apW t T) k = (t + k, sAt T k) := by simp [apW, lAt, List.getD, h]
theorem ap_yes {S : List ByteArray} {L : List (Int × ByteArray)} {t : Int} {T : List ByteArray} (h : apB S L t T = true) : apL S L t T = L ++ apW t T ∧ apN S L t T = t + T.length := by unfold apL apN; rw [if_pos h, if_pos h]; exact ⟨rfl, rfl⟩
theorem ap_no {S : List ByteArray} {L : List (Int × ByteArray)} {t : Int} {T : List ByteArray} (h : apB S L t T = false) : apL S L t T = L ∧ apN S L t T = t := by unfold apL apN; rw [if_neg (by rw [h]; exact Bool.noConfusion), if_neg (by rw [h]; exact Bool.noConfusion)]; exact ⟨rfl, rfl⟩

set_option maxRecDepth 100000 in
set_option maxHeartbeats 3200000 in
theorem impl_append (v : Value) (S : List ByteArray) (L : List (Int × ByteArray)) (t q : Int) (s : ByteArray) (w : World) (h1 : S.length ≤ 1048576) (h2 : L.length ≤ 1048576) (hs : s.size ≤ 1048576) (hv : DP w v S L) :
    Calls Try.prog 11 #[v, .int .i64 t, .int .i64 q, .string s] w fun e w' => ∃ v', e = .returned (.tuple #[v', .int .i64 (apN S L t (partsP q s)), .bool (apB S L t (partsP q s))]) ∧ DO w' w.heap.size v' S (apL S L t (partsP q s)) ∧ Below w.heap.size w w' := by
  obtain ⟨a, c, a', c', e0, r1, r2, p1, p2⟩ := id hv
  subst e0
  obtain ⟨n1, n2, n3⟩ := new_two w [.slice a S.length c, .slice a' L.length c'] [.slice none 0 0, .slice none 0 0] 27 27
  have N := hid n1
  have O := hid n2
  have B := hid n3
  have V := hid (hv.below (Nat.le_refl _) n3)
  clear n1 n2 n3 r1 r2 p1 p2 hv
  have q0 := N.out.cell (i := 0) rfl
  have q1 := N.out.cell (i := 1) rfl
  have HIM := hid (fun wz => impl_parts q s wz hs)
  have hT6 := partsP_len q s
  generalize partsP q s = T at *
  have HY := hid (fun h => ap_yes (S := S) (L := L) (t := t) (T := T) h)
  have HN := hid (fun h => ap_no (S := S) (L := L) (t := t) (T := T) h)
  have HD := hid (show apB S L t T = (okB S L && (decide (0 < T.length) && (decide (0 ≤ t) && (decide (t + T.length ≤ S.length) && decide (T.length + L.length ≤ 3000))))) from rfl)
  have HOKL := hid (fun h => (okB_iff (S := S) (L := L) h).1.2)
  generalize apB S L t T = R at *
  generalize apL S L t T = RL at *
  generalize apN S L t T = RN at *
  go_enter Try.func11, Try.ntmps11
  go_wp2_with fail
  clear q0 q1
  refine (HIM.out _).mono ?_
  generalize (w.alloc _).alloc _ = wa at *
  have hO := O.out.lt
  rintro e w1 ⟨vT, rfl, hoT, hb⟩
  obtain ⟨ta, tc, rfl, _, _⟩ := hoT.shape
  have GT := hid hoT
  replace B := hid (B.out.trans (hb.mono B.out.size))
  replace N := hid (N.out.below hb N.out.lt)
  replace O := hid (O.out.below hb O.out.lt)
  replace V := hid (V.out.below (Nat.le_refl _) hb)
  have hwa1 := hb.size
  clear hoT hb
  have q0 := N.out.cell (i := 0) rfl
  have q1 := N.out.cell (i := 1) rfl
  have HOK := hid (impl_ok _ S L _ V.out.dv)
  cases hO1 : okB S L with
  | false =>
    rw [hO1] at HOK
    have HR : R = false := by rw [HD.out, hO1]; rfl
    subst HR
    obtain ⟨e1, e2⟩ := HN.out rfl
    subst e1
    subst e2
    go_wp2_with (go_at_call 42; refine HOK.out.mono ?_; rintro e w2 ⟨rfl, hb⟩; replace B := hid (B.out.trans (hb.mono B.out.size)); replace N := hid (N.out.below hb N.out.lt); replace O := hid (O.out.below hb O.out.lt); replace V := hid (V.out.below (Nat.le_refl _) hb); replace GT := hid (GT.out.below hb); have hw12 := hb.size; clear q0 q1 hb; have q0 := N.out.cell (i := 0) rfl; have q1 := N.out.cell (i := 1) rfl)
    refine (copy_disk _ S RL _ h1 h2 V.out).mono ?_
    rintro e w3 ⟨v', rfl, ⟨va, vb, rfl, ho1, ho2⟩, hb⟩
    obtain ⟨xa, xc, rfl, _, _⟩ := ho1.shape
    obtain ⟨ya, yc, rfl, _, _⟩ := ho2.shape
    have G1 := hid ho1
    have G2 := hid ho2
    replace B := hid (B.out.trans (hb.mono B.out.size))
    replace O := hid (O.out.below hb O.out.lt)
    clear ho1 ho2 hb q0 q1
    have k0 := O.out.cell (i := 0) rfl
    have k1 := O.out.cell (i := 1) rfl
    have l0 := O.out.free 0
    have l1 := O.out.free 1
    go_wp2_with fail
    have F := (O.out.set 0 (.slice xa S.length xc)).set 1 (.slice ya RL.length yc)
    have y0 := F.cell (i := 0) rfl
    have y1 := F.cell (i := 1) rfl
    clear F
    refine bodyPost_ret (v := .tuple #[.agg #[.slice xa S.length xc, .slice ya RL.length yc], .int .i64 RN, .bool false]) (by simp [results, Try.results11, go_sem, y0, y1]) rfl ?_
    refine ⟨_, rfl, ⟨_, _, rfl, ?_, ?_⟩, (B.out.setCell (p := ⟨w.heap.size + 1, 0, none⟩) (Nat.le_succ _) _).setCell (p := ⟨w.heap.size + 1, 1, none⟩) (Nat.le_succ _) _⟩
    · exact ((G1.out.setCell_below (a := ⟨w.heap.size + 1, 0, none⟩) (by show w.heap.size + 1 < _; omega) _).setCell_below (a := ⟨w.heap.size + 1, 1, none⟩) (by show w.heap.size + 1 < _; omega) _).mono (by omega)
    · exact ((G2.out.setCell_below (a := ⟨w.heap.size + 1, 0, none⟩) (by show w.heap.size + 1 < _; omega) _).setCell_below (a := ⟨w.heap.size + 1, 1, none⟩) (by show w.heap.size + 1 < _; omega) _).mono (by omega)
  | true =>
    rw [hO1] at HOK
    have hl3 := HOKL.out hO1
    by_cases hT : 0 < T.length
    · have dT : decide (0 < T.length) = true := decide_eq_true hT
      have bT : ((T.length : Int) == 0) = false := beq_eq_false_iff_ne.2 (by omega)
      by_cases ht : 0 ≤ t
      · have dt : decide (0 ≤ t) = true := decide_eq_true ht
        have bt : ¬ t < 0 := by omega
        by_cases hS : t + T.length ≤ S.length
        · have dS : decide (t + T.length ≤ S.length) = true := decide_eq_true hS
          have bS : ¬ (S.length : Int) - (T.length : Int) < t := by omega
          go_wp2_with (first | (go_at_call 42; refine HOK.out.mono ?_; rintro e w2 ⟨rfl, hb⟩; replace B := hid (B.out.trans (hb.mono B.out.size)); replace N := hid (N.out.below hb N.out.lt); replace O := hid (O.out.below hb O.out.lt); replace V := hid (V.out.below (Nat.le_refl _) hb); replace GT := hid (GT.out.below hb); have hw12 := hb.size; clear q0 q1 hb; have q0 := N.out.cell (i := 0) rfl; have q1 := N.out.cell (i := 1) rfl) | (at_make; refine wpList_mkW _ rfl _ _ 25 rfl w2.heap.size 69 24 Try.underlying25 Try.info69 _ _ _ _ T.length rfl rfl rfl rfl (by omega) (by decide) (Nat.le_refl _) ?_))
          intro w0 hown0 hb0 _
          go_wp2_with fail
          go_loopw [50] (fun i wr => ∃ (k : Nat) (ys : List (Int × ByteArray)), k ≤ T.length ∧ i = .int .i64 k ∧ OwG wr w2.heap.size 69 2 (.slice (some ⟨w2.heap.size, 0, none⟩) T.length T.length) T.length (encW ys) ∧ Hid (ys.length = T.length ∧ ∀ j, j < k → lAt ys j = (t + (j : Int), sAt T j)) ∧ Hid (Below w2.heap.size w2 wr)) (fun i _ => T.length - (intOf i).toNat)
          case atStart => exact ⟨0, _, by omega, rfl, hown0, ⟨by simp, fun j hj => by omega⟩, hb0⟩
          case round =>
            obtain ⟨k, ys, hk, rfl, hown, hys, hbl⟩ := hrel
            clear hown0 hb0 q0 q1
            by_cases hlt : k < T.length
            · obtain ⟨b, off, rfl, hc⟩ := (GT.out.below hbl.out).rw.atS k hlt
              have HL := hid hys.out.1
              obtain ⟨b', off', e', old1, old2⟩ := hown.rw.atW k (by have := HL.out; omega)
              cases e'
              rw [Nat.zero_add] at old1 old2
              have hfree1 := hown.free (k * 2)
              have hfree2 := hown.free (k * 2 + 1)
              have hnew := (hown.store (k * 2) (.int .i64 (t + (k : Int)))).store (k * 2 + 1) (.string (sAt T k))
              rw [encW_set ys k (t + (k : Int), sAt T k)] at hnew
              have HNEW := hid hnew
              generalize hX : sAt T k = X at *
              have HX := hid hX
              clear hX
              generalize (lAt ys k).1 = Y1 at *
              generalize (lAt ys k).2 = Y2 at *
              clear hnew hown
              go_wp2_with fail
              go_roundw
              case rel =>
                refine ⟨k + 1, _, by omega, by go_num, HNEW.out, ⟨by simp; exact hys.out.1, fun j hj => ?_⟩, (hbl.out.setCell (p := ⟨w2.heap.size, k * 2, none⟩) (Nat.le_refl _) _).setCell (p := ⟨w2.heap.size, k * 2 + 1, none⟩) (Nat.le_refl _) _⟩
                by_cases e : j = k
                · subst e
                  rw [lAt_set_same _ _ _ (by rw [HL.out]; exact hlt), HX.out]
                · rw [lAt_set_ne _ _ _ _ (fun h => e h.symm), hys.out.2 j (by omega)]
              case measure => simp [intOf]; omega
            · obtain rfl : k = T.length := by omega
              have hxy : ys = apW t T := l_ext (by rw [apW_len]; exact hys.out.1) (fun i hi => by rw [hys.out.2 i (by rw [← hys.out.1]; exact hi), apW_at _ _ _ (by rw [← hys.out.1]; exact hi)])
              subst hxy
              have hb := hbl.out
              have HWR := hid hown
              have HWA := hid (Nat.le_trans hwa1 (Nat.le_trans hw12 hb.size))
              replace B := hid (B.out.trans (hb.mono B.out.size))
              replace N := hid (N.out.below hb N.out.lt)
              replace O := hid (O.out.below hb O.out.lt)
              replace V := hid (V.out.below (Nat.le_refl _) hb)
              clear hb hbl hys hown GT
              have q0 := N.out.cell (i := 0) rfl
              have q1 := N.out.cell (i := 1) rfl
              have HWL := hid (write_late _ S L (apW t T) (some ⟨w2.heap.size, 0, none⟩) T.length _ h1 h2 (by rw [apW_len]; omega) V.out HWR.out.rw (.inr ⟨_, _, rfl⟩))
              rw [apW_len] at HWL
              go_wp2_with fail
              refine HWL.out.mono ?_
              clear HWL
              rintro e w5 ⟨v', rfl, ⟨va, vb, rfl, ho1, ho2⟩, hb5⟩
              by_cases hR : T.length + L.length ≤ 3000
              · have dR : decide (T.length + L.length ≤ 3000) = true := decide_eq_true hR
                have HW : wlL L (apW t T) = L ++ apW t T := by unfold wlL; rw [apW_len, if_pos hR]
                rw [HW] at ho2
                have HR : R = true := by rw [HD.out, hO1, dT, dt, dS, dR]; rfl
                subst HR
                obtain ⟨e1, e2⟩ := HY.out rfl
                subst e1
                subst e2
                rw [dR]
                clear dR HW hR dT dt dS HD
                obtain ⟨xa, xc, rfl, _, _⟩ := ho1.shape
                replace ho2 := ho2.cast2 (show (L ++ apW t T).length = L.length + T.length by rw [List.length_append, apW_len]) rfl
                obtain ⟨ya, yc, rfl, _, _⟩ := ho2.shape
                have G1 := hid (ho1.mono (show wa.heap.size ≤ _ from HWA.out))
                have G2 := hid (ho2.mono (show wa.heap.size ≤ _ from HWA.out))
                replace B := hid (B.out.trans (hb5.mono B.out.size))
                replace O := hid (O.out.below hb5 O.out.lt)
                clear ho1 ho2 hb5 q0 q1
                have hb := (Below.refl w5.heap.size w5).alloc (Nat.le_refl _) (.cells #[.slice xa S.length xc, .slice ya (L.length + T.length) yc] 27)
                replace B := hid (B.out.trans (hb.mono B.out.size))
                replace O := hid (O.out.below hb O.out.lt)
                replace G1 := hid (G1.out.below hb)
                replace G2 := hid (G2.out.below hb)
                have X := hid (Blk.new w5 [.slice xa S.length xc, .slice ya (L.length + T.length) yc] 27)
                clear hb
                have k0 := O.out.cell (i := 0) rfl
                have k1 := O.out.cell (i := 1) rfl
                have l0 := O.out.free 0
                have l1 := O.out.free 1
                have z0 := X.out.cell (i := 0) rfl
                have z1 := X.out.cell (i := 1) rfl
                go_wp2_with fail
                have F := (O.out.set 0 (.slice xa S.length xc)).set 1 (.slice ya (L.length + T.length) yc)
                have y0 := F.cell (i := 0) rfl
                have y1 := F.cell (i := 1) rfl
                clear F
                refine bodyPost_ret (v := .tuple #[.agg #[.slice xa S.length xc, .slice ya (L.length + T.length) yc], .int .i64 (t + (T.length : Int)), .bool true]) (by simp [results, Try.results11, go_sem, y0, y1]) rfl ?_
                refine ⟨_, rfl, ⟨_, _, rfl, ?_, ?_⟩, (B.out.setCell (p := ⟨w.heap.size + 1, 0, none⟩) (Nat.le_succ _) _).setCell (p := ⟨w.heap.size + 1, 1, none⟩) (Nat.le_succ _) _⟩
                · exact ((G1.out.setCell_below (a := ⟨w.heap.size + 1, 0, none⟩) hO _).setCell_below (a := ⟨w.heap.size + 1, 1, none⟩) hO _).mono (by omega)
                · exact (((G2.out.setCell_below (a := ⟨w.heap.size + 1, 0, none⟩) hO _).setCell_below (a := ⟨w.heap.size + 1, 1, none⟩) hO _).mono (by omega)).cast2 (by simp [apW_len]) rfl
              · have dR : decide (T.length + L.length ≤ 3000) = false := decide_eq_false hR
                have HW : wlL L (apW t T) = L := by unfold wlL; rw [apW_len, if_neg hR]
                rw [HW] at ho2
                have HR : R = false := by rw [HD.out, hO1, dT, dt, dS, dR]; rfl
                subst HR
                obtain ⟨e1, e2⟩ := HN.out rfl
                subst e1
                subst e2
                rw [dR]
                clear dR HW hR dT dt dS HD
                obtain ⟨xa, xc, rfl, _, _⟩ := ho1.shape
                obtain ⟨ya, yc, rfl, _, _⟩ := ho2.shape
                have G1 := hid (ho1.mono (show wa.heap.size ≤ _ from HWA.out))
                have G2 := hid (ho2.mono (show wa.heap.size ≤ _ from HWA.out))
                replace B := hid (B.out.trans (hb5.mono B.out.size))
                replace O := hid (O.out.below hb5 O.out.lt)
                clear ho1 ho2 hb5 q0 q1
                have hb := (Below.refl w5.heap.size w5).alloc (Nat.le_refl _) (.cells #[.slice xa S.length xc, .slice ya RL.length yc] 27)
                replace B := hid (B.out.trans (hb.mono B.out.size))
                replace O := hid (O.out.below hb O.out.lt)
                replace G1 := hid (G1.out.below hb)
                replace G2 := hid (G2.out.below hb)
                have X := hid (Blk.new w5 [.slice xa S.length xc, .slice ya RL.length yc] 27)
                clear hb
                have k0 := O.out.cell (i := 0) rfl
                have k1 := O.out.cell (i := 1) rfl
                have l0 := O.out.free 0
                have l1 := O.out.free 1
                have z0 := X.out.cell (i := 0) rfl
                have z1 := X.out.cell (i := 1) rfl
                go_wp2_with fail
                have F := (O.out.set 0 (.slice xa S.length xc)).set 1 (.slice ya RL.length yc)
                have y0 := F.cell (i := 0) rfl
                have y1 := F.cell (i := 1) rfl
                clear F
                refine bodyPost_ret (v := .tuple #[.agg #[.slice xa S.length xc, .slice ya RL.length yc], .int .i64 RN, .bool false]) (by simp [results, Try.results11, go_sem, y0, y1]) rfl ?_
                refine ⟨_, rfl, ⟨_, _, rfl, ?_, ?_⟩, (B.out.setCell (p := ⟨w.heap.size + 1, 0, none⟩) (Nat.le_succ _) _).setCell (p := ⟨w.heap.size + 1, 1, none⟩) (Nat.le_succ _) _⟩
                · exact ((G1.out.setCell_below (a := ⟨w.heap.size + 1, 0, none⟩) hO _).setCell_below (a := ⟨w.heap.size + 1, 1, none⟩) hO _).mono (by omega)
                · exact (((G2.out.setCell_below (a := ⟨w.heap.size + 1, 0, none⟩) hO _).setCell_below (a := ⟨w.heap.size + 1, 1, none⟩) hO _).mono (by omega)).cast2 (by simp) rfl
        · have dS : decide (t + T.length ≤ S.length) = false := decide_eq_false hS
          have bS : (S.length : Int) - (T.length : Int) < t := by omega
          have HR : R = false := by rw [HD.out, hO1, dT, dt, dS]; rfl
          subst HR
          obtain ⟨e1, e2⟩ := HN.out rfl
          subst e1
          subst e2
          go_wp2_with (go_at_call 42; refine HOK.out.mono ?_; rintro e w2 ⟨rfl, hb⟩; replace B := hid (B.out.trans (hb.mono B.out.size)); replace N := hid (N.out.below hb N.out.lt); replace O := hid (O.out.below hb O.out.lt); replace V := hid (V.out.below (Nat.le_refl _) hb); replace GT := hid (GT.out.below hb); have hw12 := hb.size; clear q0 q1 hb; have q0 := N.out.cell (i := 0) rfl; have q1 := N.out.cell (i := 1) rfl)
          refine (copy_disk _ S RL _ h1 h2 V.out).mono ?_
          rintro e w3 ⟨v', rfl, ⟨va, vb, rfl, ho1, ho2⟩, hb⟩
          obtain ⟨xa, xc, rfl, _, _⟩ := ho1.shape
          obtain ⟨ya, yc, rfl, _, _⟩ := ho2.shape
          have G1 := hid ho1
          have G2 := hid ho2
          replace B := hid (B.out.trans (hb.mono B.out.size))
          replace O := hid (O.out.below hb O.out.lt)
          clear ho1 ho2 hb q0 q1
          have k0 := O.out.cell (i := 0) rfl
          have k1 := O.out.cell (i := 1) rfl
          have l0 := O.out.free 0
          have l1 := O.out.free 1
          go_wp2_with fail
          have F := (O.out.set 0 (.slice xa S.length xc)).set 1 (.slice ya RL.length yc)
          have y0 := F.cell (i := 0) rfl
          have y1 := F.cell (i := 1) rfl
          clear F
          refine bodyPost_ret (v := .tuple #[.agg #[.slice xa S.length xc, .slice ya RL.length yc], .int .i64 RN, .bool false]) (by simp [results, Try.results11, go_sem, y0, y1]) rfl ?_
          refine ⟨_, rfl, ⟨_, _, rfl, ?_, ?_⟩, (B.out.setCell (p := ⟨w.heap.size + 1, 0, none⟩) (Nat.le_succ _) _).setCell (p := ⟨w.heap.size + 1, 1, none⟩) (Nat.le_succ _) _⟩
          · exact ((G1.out.setCell_below (a := ⟨w.heap.size + 1, 0, none⟩) (by show w.heap.size + 1 < _; omega) _).setCell_below (a := ⟨w.heap.size + 1, 1, none⟩) (by show w.heap.size + 1 < _; omega) _).mono (by omega)
          · exact ((G2.out.setCell_below (a := ⟨w.heap.size + 1, 0, none⟩) (by show w.heap.size + 1 < _; omega) _).setCell_below (a := ⟨w.heap.size + 1, 1, none⟩) (by show w.heap.size + 1 < _; omega) _).mono (by omega)
      · have dt : decide (0 ≤ t) = false := decide_eq_false ht
        have bt : t < 0 := by omega
        have HR : R = false := by rw [HD.out, hO1, dT, dt]; rfl
        subst HR
        obtain ⟨e1, e2⟩ := HN.out rfl
        subst e1
        subst e2
        go_wp2_with (go_at_call 42; refine HOK.out.mono ?_; rintro e w2 ⟨rfl, hb⟩; replace B := hid (B.out.trans (hb.mono B.out.size)); replace N := hid (N.out.below hb N.out.lt); replace O := hid (O.out.below hb O.out.lt); replace V := hid (V.out.below (Nat.le_refl _) hb); replace GT := hid (GT.out.below hb); have hw12 := hb.size; clear q0 q1 hb; have q0 := N.out.cell (i := 0) rfl; have q1 := N.out.cell (i := 1) rfl)
        refine (copy_disk _ S RL _ h1 h2 V.out).mono ?_
        rintro e w3 ⟨v', rfl, ⟨va, vb, rfl, ho1, ho2⟩, hb⟩
        obtain ⟨xa, xc, rfl, _, _⟩ := ho1.shape
        obtain ⟨ya, yc, rfl, _, _⟩ := ho2.shape
        have G1 := hid ho1
        have G2 := hid ho2
        replace B := hid (B.out.trans (hb.mono B.out.size))
        replace O := hid (O.out.below hb O.out.lt)
        clear ho1 ho2 hb q0 q1
        have k0 := O.out.cell (i := 0) rfl
        have k1 := O.out.cell (i := 1) rfl
        have l0 := O.out.free 0
        have l1 := O.out.free 1
        go_wp2_with fail
        have F := (O.out.set 0 (.slice xa S.length xc)).set 1 (.slice ya RL.length yc)
        have y0 := F.cell (i := 0) rfl
        have y1 := F.cell (i := 1) rfl
        clear F
        refine bodyPost_ret (v := .tuple #[.agg #[.slice xa S.length xc, .slice ya RL.length yc], .int .i64 RN, .bool false]) (by simp [results, Try.results11, go_sem, y0, y1]) rfl ?_
        refine ⟨_, rfl, ⟨_, _, rfl, ?_, ?_⟩, (B.out.setCell (p := ⟨w.heap.size + 1, 0, none⟩) (Nat.le_succ _) _).setCell (p := ⟨w.heap.size + 1, 1, none⟩) (Nat.le_succ _) _⟩
        · exact ((G1.out.setCell_below (a := ⟨w.heap.size + 1, 0, none⟩) (by show w.heap.size + 1 < _; omega) _).setCell_below (a := ⟨w.heap.size + 1, 1, none⟩) (by show w.heap.size + 1 < _; omega) _).mono (by omega)
        · exact ((G2.out.setCell_below (a := ⟨w.heap.size + 1, 0, none⟩) (by show w.heap.size + 1 < _; omega) _).setCell_below (a := ⟨w.heap.size + 1, 1, none⟩) (by show w.heap.size + 1 < _; omega) _).mono (by omega)
    · have dT : decide (0 < T.length) = false := decide_eq_false hT
      have bT : ((T.length : Int) == 0) = true := beq_iff_eq.2 (by omega)
      have HR : R = false := by rw [HD.out, hO1, dT]; rfl
      subst HR
      obtain ⟨e1, e2⟩ := HN.out rfl
      subst e1
      subst e2
      go_wp2_with (go_at_call 42; refine HOK.out.mono ?_; rintro e w2 ⟨rfl, hb⟩; replace B := hid (B.out.trans (hb.mono B.out.size)); replace N := hid (N.out.below hb N.out.lt); replace O := hid (O.out.below hb O.out.lt); replace V := hid (V.out.below (Nat.le_refl _) hb); replace GT := hid (GT.out.below hb); have hw12 := hb.size; clear q0 q1 hb; have q0 := N.out.cell (i := 0) rfl; have q1 := N.out.cell (i := 1) rfl)
      refine (copy_disk _ S RL _ h1 h2 V.out).mono ?_
      rintro e w3 ⟨v', rfl, ⟨va, vb, rfl, ho1, ho2⟩, hb⟩
      obtain ⟨xa, xc, rfl, _, _⟩ := ho1.shape
      obtain ⟨ya, yc, rfl, _, _⟩ := ho2.shape
      have G1 := hid ho1
      have G2 := hid ho2
      replace B := hid (B.out.trans (hb.mono B.out.size))
      replace O := hid (O.out.below hb O.out.lt)
      clear ho1 ho2 hb q0 q1
      have k0 := O.out.cell (i := 0) rfl
      have k1 := O.out.cell (i := 1) rfl
      have l0 := O.out.free 0
      have l1 := O.out.free 1
      go_wp2_with fail
      have F := (O.out.set 0 (.slice xa S.length xc)).set 1 (.slice ya RL.length yc)
      have y0 := F.cell (i := 0) rfl
      have y1 := F.cell (i := 1) rfl
      clear F
      refine bodyPost_ret (v := .tuple #[.agg #[.slice xa S.length xc, .slice ya RL.length yc], .int .i64 RN, .bool false]) (by simp [results, Try.results11, go_sem, y0, y1]) rfl ?_
      refine ⟨_, rfl, ⟨_, _, rfl, ?_, ?_⟩, (B.out.setCell (p := ⟨w.heap.size + 1, 0, none⟩) (Nat.le_succ _) _).setCell (p := ⟨w.heap.size + 1, 1, none⟩) (Nat.le_succ _) _⟩
      · exact ((G1.out.setCell_below (a := ⟨w.heap.size + 1, 0, none⟩) (by show w.heap.size + 1 < _; omega) _).setCell_below (a := ⟨w.heap.size + 1, 1, none⟩) (by show w.heap.size + 1 < _; omega) _).mono (by omega)
      · exact ((G2.out.setCell_below (a := ⟨w.heap.size + 1, 0, none⟩) (by show w.heap.size + 1 < _; omega) _).setCell_below (a := ⟨w.heap.size + 1, 1, none⟩) (by show w.heap.size + 1 < _; omega) _).mono (by omega)
end Go.Proofs.Ytphhgfgmlfdkiaa
