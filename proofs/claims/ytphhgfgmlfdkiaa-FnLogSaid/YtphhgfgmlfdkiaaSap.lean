/- The contract of LogAppend, of the specification. -/
import Derived.Test.YtphhgfgmlfdkiaaAp
import Derived.Test.YtphhgfgmlfdkiaaSpp
import Derived.Test.YtphhgfgmlfdkiaaQg
namespace Go.Proofs.Ytphhgfgmlfdkiaa
open Go.RowKit
set_option linter.unusedVariables false

/-- The first k writes of parts. -/
def apTo (t : Int) (T : List ByteArray) (k : Nat) : List (Int × ByteArray) := (List.range k).map fun (k : Nat) => (t + (k : Int), sAt T k)
theorem apTo_succ (L : List (Int × ByteArray)) (t : Int) (T : List ByteArray) (k : Nat) : encW (L ++ apTo t T k) ++ [.int .i64 (t + (k : Int)), .string (sAt T k)] = encW (L ++ apTo t T (k + 1)) := by
  rw [encW_snoc]
  simp [apTo, List.range_succ]
theorem apTo_len (t : Int) (T : List ByteArray) (k : Nat) : (apTo t T k).length = k := by simp [apTo]
theorem apTo_end (t : Int) (T : List ByteArray) : apTo t T T.length = apW t T := rfl

set_option maxRecDepth 100000 in
set_option maxHeartbeats 3200000 in
theorem spec_append (v : Value) (S : List ByteArray) (L : List (Int × ByteArray)) (t q : Int) (s : ByteArray) (w : World) (h1 : S.length ≤ 1048576) (h2 : L.length ≤ 1048576) (hs : s.size ≤ 1048576) (htm : t ≤ 9223372036854775807) (hv : DP w v S L) :
    Calls Try.prog 34 #[v, .int .i64 t, .int .i64 q, .string s] w fun e w' => ∃ v', e = .returned (.tuple #[v', .int .i64 (apN S L t (partsP q s)), .bool (apB S L t (partsP q s))]) ∧ DO w' w.heap.size v' S (apL S L t (partsP q s)) ∧ Below w.heap.size w w' := by
  obtain ⟨a, c, a', c', e0, r1, r2, p1, p2⟩ := id hv
  subst e0
  obtain ⟨n1, n2, n3⟩ := new_two w [.slice a S.length c, .slice a' L.length c'] [.slice none 0 0, .slice none 0 0] 27 27
  have N := hid n1
  have O := hid n2
  have B := hid n3
  have V := hid (hv.below (Nat.le_refl _) n3)
  clear n1 n2 n3 r1 r2 p1 p2 hv
  have HSP := hid (fun wz => spec_parts q s wz hs)
  have hT6 := partsP_len q s
  generalize partsP q s = T at *
  have HY := hid (fun h => ap_yes (S := S) (L := L) (t := t) (T := T) h)
  have HN := hid (fun h => ap_no (S := S) (L := L) (t := t) (T := T) h)
  have HD := hid (show apB S L t T = (okB S L && (decide (0 < T.length) && (decide (0 ≤ t) && (decide (t + T.length ≤ S.length) && decide (T.length + L.length ≤ 3000))))) from rfl)
  have HOKL := hid (fun h => (okB_iff (S := S) (L := L) h).1.2)
  generalize apB S L t T = R at *
  generalize apL S L t T = RL at *
  generalize apN S L t T = RN at *
  have q0 := N.out.cell (i := 0) rfl
  have q1 := N.out.cell (i := 1) rfl
  go_enter Try.func34, Try.ntmps34
  go_wp2_with fail
  clear q0 q1
  refine (spec_copy _ S L _ h1 h2 V.out).mono ?_
  generalize (w.alloc _).alloc _ = wa at *
  have hO := O.out.lt
  have hN := N.out.lt
  rintro e w1 ⟨v', rfl, ⟨va, vb, rfl, ho1, ho2⟩, hb⟩
  obtain ⟨xa, xc, rfl, _, _⟩ := ho1.shape
  obtain ⟨ya, yc, rfl, _, _⟩ := ho2.shape
  have hwa1 := hb.size
  have KN := N.out.below hb N.out.lt
  have q0 := KN.cell (i := 0) rfl
  have q1 := KN.cell (i := 1) rfl
  have f0 := KN.free 0
  have f1 := KN.free 1
  have KN1 := KN.set 0 (.slice xa S.length xc)
  have q3 := KN1.cell (i := 1) rfl
  have f3 := KN1.free 1
  have KN2 := KN1.set 1 (.slice ya L.length yc)
  replace B := hid (((B.out.trans (hb.mono B.out.size)).setCell (p := ⟨w.heap.size, 0, none⟩) (Nat.le_refl _) (.slice xa S.length xc)).setCell (p := ⟨w.heap.size, 1, none⟩) (Nat.le_refl _) (.slice ya L.length yc))
  replace O := hid (((O.out.below hb O.out.lt).other (a := ⟨w.heap.size, 0, none⟩) (by show w.heap.size + 1 ≠ w.heap.size; omega) (.slice xa S.length xc)).other (a := ⟨w.heap.size, 1, none⟩) (by show w.heap.size + 1 ≠ w.heap.size; omega) (.slice ya L.length yc))
  have G1 := hid ((ho1.setCell_below (a := ⟨w.heap.size, 0, none⟩) hN (.slice xa S.length xc)).setCell_below (a := ⟨w.heap.size, 1, none⟩) hN (.slice ya L.length yc))
  have G2 := hid ((ho2.setCell_below (a := ⟨w.heap.size, 0, none⟩) hN (.slice xa S.length xc)).setCell_below (a := ⟨w.heap.size, 1, none⟩) hN (.slice ya L.length yc))
  replace N := hid KN2
  clear ho1 ho2 hb V KN KN1 KN2
  go_wp2_with fail
  clear q0 q1 f0 f1 q3 f3
  refine (HSP.out _).mono ?_
  have hsz : ((w1.setCell ⟨w.heap.size, 0, none⟩ (.slice xa S.length xc)).setCell ⟨w.heap.size, 1, none⟩ (.slice ya L.length yc)).heap.size = w1.heap.size := by simp [World.setCell]
  generalize (w1.setCell ⟨w.heap.size, 0, none⟩ (.slice xa S.length xc)).setCell ⟨w.heap.size, 1, none⟩ (.slice ya L.length yc) = w2 at *
  rintro e w3 ⟨vT, rfl, hoT, hb⟩
  obtain ⟨ta, tc, rfl, _, _⟩ := hoT.shape
  have GT := hid hoT
  replace B := hid (B.out.trans (hb.mono B.out.size))
  replace N := hid (N.out.below hb N.out.lt)
  replace O := hid (O.out.below hb O.out.lt)
  replace G1 := hid (G1.out.below hb)
  replace G2 := hid (G2.out.below hb)
  have hw23 := hb.size
  clear hoT hb
  have HOK := hid (spec_ok (.agg #[.slice xa S.length xc, .slice ya L.length yc]) S L w3 ⟨_, _, _, _, rfl, G1.out.rw, G2.out.rw⟩)
  have z0 := N.out.cell (i := 0) rfl
  have z1 := N.out.cell (i := 1) rfl
  cases hO1 : okB S L with
  | false =>
    rw [hO1] at HOK
    have HR : R = false := by rw [HD.out, hO1]; rfl
    subst HR
    obtain ⟨e1, e2⟩ := HN.out rfl
    subst e1
    subst e2
    go_wp2_with (go_at_call 25; refine HOK.out.mono ?_; rintro e w4 ⟨rfl, hb⟩; replace B := hid (B.out.trans (hb.mono B.out.size)); replace N := hid (N.out.below hb N.out.lt); replace O := hid (O.out.below hb O.out.lt); replace G1 := hid (G1.out.below hb); replace G2 := hid (G2.out.below hb); replace GT := hid (GT.out.below hb); have hw34 := hb.size; clear hb z0 z1; have z0 := N.out.cell (i := 0) rfl; have z1 := N.out.cell (i := 1) rfl; have k0 := O.out.cell (i := 0) rfl; have k1 := O.out.cell (i := 1) rfl; have l0 := O.out.free 0; have l1 := O.out.free 1; have m1 := N.out.free 1)
    have F := (O.out.set 0 (.slice xa S.length xc)).set 1 (.slice ya RL.length yc)
    have y0 := F.cell (i := 0) rfl
    have y1 := F.cell (i := 1) rfl
    clear F
    refine bodyPost_ret (v := .tuple #[.agg #[.slice xa S.length xc, .slice ya RL.length yc], .int .i64 RN, .bool false]) (by simp [results, Try.results34, go_sem, y0, y1]) rfl ?_
    refine ⟨_, rfl, ⟨_, _, rfl, ?_, ?_⟩, (B.out.setCell (p := ⟨w.heap.size + 1, 0, none⟩) (Nat.le_succ _) _).setCell (p := ⟨w.heap.size + 1, 1, none⟩) (Nat.le_succ _) _⟩
    · exact ((G1.out.setCell_below (a := ⟨w.heap.size + 1, 0, none⟩) hO _).setCell_below (a := ⟨w.heap.size + 1, 1, none⟩) hO _).mono (by omega)
    · exact ((G2.out.setCell_below (a := ⟨w.heap.size + 1, 0, none⟩) hO _).setCell_below (a := ⟨w.heap.size + 1, 1, none⟩) hO _).mono (by omega)
  | true =>
    rw [hO1] at HOK
    have hl3 := HOKL.out hO1
    by_cases hT : 0 < T.length
    · have dT : decide (0 < T.length) = true := decide_eq_true hT
      have bT : ((T.length : Int) == 0) = false := beq_eq_false_iff_ne.2 (by omega)
      by_cases ht : 0 ≤ t
      · have dt : decide (0 ≤ t) = true := decide_eq_true ht
        have bt : ¬ t < 0 := by omega
        by_cases hS : t + T.length ≤ S.length
        · have dS : decide (t + T.length ≤ S.length) = true := decide_eq_true hS
          have bS : ¬ (S.length : Int) - t < (T.length : Int) := by omega
          by_cases hR : T.length + L.length ≤ 3000
          · have dR : decide (T.length + L.length ≤ 3000) = true := decide_eq_true hR
            have bR : ¬ (3000 : Int) - (L.length : Int) < (T.length : Int) := by omega
            have HR : R = true := by rw [HD.out, hO1, dT, dt, dS, dR]; rfl
            subst HR
            obtain ⟨e1, e2⟩ := HY.out rfl
            subst e1
            subst e2
            go_wp2_with (go_at_call 25; refine HOK.out.mono ?_; rintro e w4 ⟨rfl, hb⟩; replace B := hid (B.out.trans (hb.mono B.out.size)); replace N := hid (N.out.below hb N.out.lt); replace O := hid (O.out.below hb O.out.lt); replace G1 := hid (G1.out.below hb); replace G2 := hid (G2.out.below hb); replace GT := hid (GT.out.below hb); have hw34 := hb.size; clear hb z0 z1; have z0 := N.out.cell (i := 0) rfl; have z1 := N.out.cell (i := 1) rfl; have k0 := O.out.cell (i := 0) rfl; have k1 := O.out.cell (i := 1) rfl; have l0 := O.out.free 0; have l1 := O.out.free 1; have m1 := N.out.free 1)
            clear z0 z1 k0 k1 l0 l1 m1 dT dt dS dR HD
            go_loopw [12] (fun i wr => ∃ (k : Nat) (ea : Option Addr) (ec : Nat), k ≤ T.length ∧ i = .int .i64 k ∧ Hid (Blk wr w.heap.size [.slice xa S.length xc, .slice ea (L.length + k) ec] 27) ∧ Hid (OwG wr wa.heap.size 69 2 (.slice ea (L.length + k) ec) (L.length + k) (encW (L ++ apTo t T k))) ∧ Hid (OwG wr wa.heap.size 9 1 (.slice xa S.length xc) S.length (encS S)) ∧ Hid (OwG wr wa.heap.size 9 1 (.slice ta T.length tc) T.length (encS T)) ∧ Hid (Blk wr (w.heap.size + 1) [.slice none 0 0, .slice none 0 0] 27) ∧ Hid (Below w.heap.size w wr)) (fun i _ => T.length - (intOf i).toNat)
            case atStart => exact ⟨0, ya, yc, by omega, rfl, N.out, G2.out.cast2 rfl (by simp [apTo]), G1.out, GT.out.mono (by omega), O.out, B.out⟩
            case round =>
              clear N G1 G2 GT O B
              obtain ⟨k, ea, ec, hk, rfl, N, G2, G1, GT, O, B⟩ := hrel
              have z0 := N.out.cell (i := 0) rfl
              have z1 := N.out.cell (i := 1) rfl
              have m1 := N.out.free 1
              by_cases hlt : k < T.length
              · obtain ⟨g, o, rfl, hc⟩ := GT.out.rw.atS k hlt
                have hlt' : (k : Int) < (T.length : Int) := by omega
                have HEN := hid (apTo_succ L t T k)
                have hone := one_W (t + (k : Int)) (sAt T k)
                generalize sAt T k = X at *
                have hl4 : L.length + k < 1000000000 := by omega
                have zw : IntKind.i64.wrap (t + (k : Int)) = t + (k : Int) := by rw [IntKind.wrap_i64]; omega
                go_wp2_with fail
                refine region_R (by kernel_rfl) ?_
                refine anyR_quiet 0 rfl (by kernel_rfl) (by kernel_rfl) (by kernel_rfl) (fun K hK => ?_)
                go_simp
                refine ⟨_, fun _ _ => rfl, hK _ ?_⟩
                clear hK K
                refine anyR_load 1 rfl (by kernel_rfl) (by kernel_rfl) (by kernel_rfl) (.slice ea (L.length + k) ec) rfl (fun wz hwz => ?_) (fun K hK => ?_)
                · have y0 := cell_bw z1 hwz
                  go_simp
                go_simp
                refine hK _ ?_
                clear hK K
                refine anyR_quiet 2 rfl (by kernel_rfl) (by kernel_rfl) (by kernel_rfl) (fun K hK => ?_)
                go_simp
                refine ⟨_, fun _ _ => rfl, hK _ ?_⟩
                clear hK K
                refine anyR_quiet 3 rfl (by kernel_rfl) (by kernel_rfl) (by kernel_rfl) (fun K hK => ?_)
                go_simp
                refine ⟨_, fun _ _ => rfl, hK _ ?_⟩
                clear hK K
                refine anyR_quiet 4 rfl (by kernel_rfl) (by kernel_rfl) (by kernel_rfl) (fun K hK => ?_)
                go_simp
                refine ⟨_, fun _ _ => rfl, hK _ ?_⟩
                clear hK K
                refine anyR_quiet 5 rfl (by kernel_rfl) (by kernel_rfl) (by kernel_rfl) (fun K hK => ?_)
                go_simp
                refine ⟨_, fun _ _ => rfl, hK _ ?_⟩
                clear hK K
                refine anyR_quiet 6 rfl (by kernel_rfl) (by kernel_rfl) (by kernel_rfl) (fun K hK => ?_)
                go_simp
                refine ⟨_, fun _ _ => rfl, hK _ ?_⟩
                clear hK K
                refine anyR_quiet 7 rfl (by kernel_rfl) (by kernel_rfl) (by kernel_rfl) (fun K hK => ?_)
                go_simp
                refine ⟨_, fun _ _ => rfl, hK _ ?_⟩
                clear hK K
                refine anyR_load 8 rfl (by kernel_rfl) (by kernel_rfl) (by kernel_rfl) (.string X) rfl (fun wz hwz => ?_) (fun K hK => ?_)
                · have y0 := cell_bw hc hwz
                  go_simp
                go_simp
                refine hK _ ?_
                clear hK K
                refine anyR_quiet 9 rfl (by kernel_rfl) (by kernel_rfl) (by kernel_rfl) (fun K hK => ?_)
                go_simp
                refine ⟨_, fun _ _ => rfl, hK _ ?_⟩
                clear hK K
                clear zw
                refine anyR_call 10 rfl rfl (by kernel_rfl) (by kernel_rfl) (fun wp hwp K hK => ?_)
                go_simp
                refine hK _ _ (.inr ((Below.refl _ _).alloc (Nat.le_refl _) _)) ?_
                clear hK K
                have GB := hid (Blk.new wp [.int .i64 (t + (k : Int)), .string X] 69)
                have HB1 := hid (Bw.trans hwp ((Below.refl wp.heap.size wp).alloc (Nat.le_refl _) (.cells #[.int .i64 (t + (k : Int)), .string X] 69)))
                generalize wp.alloc (.cells #[.int .i64 (t + (k : Int)), .string X] 69) = wb at *
                refine anyR_call 11 rfl rfl (by kernel_rfl) (by kernel_rfl) (fun wc hwc K hK => ?_)
                have HB2 := hid (HB1.out.trans hwc)
                have GB2 := hid (GB.out.below hwc GB.out.lt)
                replace N := hid (N.out.below HB2.out N.out.lt)
                replace O := hid (O.out.below HB2.out O.out.lt)
                replace G1 := hid (G1.out.below HB2.out)
                replace G2 := hid (G2.out.below HB2.out)
                replace GT := hid (GT.out.below HB2.out)
                replace B := hid (B.out.trans (Below.mono HB2.out B.out.size))
                refine wp_of_list (ops := #[]) rfl (wpList_appG wc rfl (.tmp 58) (.tmp 67) 25 rfl wa.heap.size 69 (.agg #[.int .i64 0, .string ByteArray.empty]) 2 24 Try.underlying25 Try.info69 rfl (by decide) (.slice ea (L.length + k) ec) (L.length + k) (encW (L ++ apTo t T k)) rfl G2.out (some ⟨wp.heap.size, 0, none⟩) 1 1 [.int .i64 (t + (k : Int)), .string X] rfl rfl GB2.out.rw (.inr ⟨_, _, rfl⟩) hone (by omega) (by decide) ?_)
                intro v4 w5 ho4 hb4 hg4
                obtain ⟨va4, vc4, rfl, _, _⟩ := ho4.shape
                refine ⟨rfl, hK _ _ (.inl (by kernel_rfl)) ?_⟩
                clear hK K
                have X4 := hid (N.out.below hb4 hN)
                have O4 := hid (O.out.below hb4 hO)
                have H1 := hid (G1.out.kept hg4 (G1.out.apart G2.out (by decide)))
                have HT := hid (GT.out.kept hg4 (GT.out.apart G2.out (by decide)))
                have HG := hid ho4
                have B4 := hid (B.out.trans (hb4.mono (by omega)))
                clear ho4 hb4 hg4 z0 z1 m1 N G1 G2 GT O B hc GB2 HB1 HB2 hwp hwc GB
                refine anyR_quiet 12 rfl (by kernel_rfl) (by kernel_rfl) (by kernel_rfl) (fun K hK => ?_)
                go_simp
                refine ⟨_, fun _ _ => rfl, hK _ ?_⟩
                clear hK K
                refine anyR_last 13 rfl (by kernel_rfl) (by kernel_rfl) (fun wz hwz K hK => ?_)
                replace X4 := hid (X4.out.below hwz X4.out.lt)
                replace O4 := hid (O4.out.below hwz O4.out.lt)
                replace H1 := hid (H1.out.below hwz)
                replace HT := hid (HT.out.below hwz)
                replace HG := hid (HG.out.below hwz)
                replace B4 := hid (B4.out.trans (Below.mono hwz B4.out.size))
                have c0 := X4.out.cell (i := 0) rfl
                have c1 := X4.out.cell (i := 1) rfl
                have f1 := X4.out.free 1
                have X5 := hid (X4.out.set 1 (.slice va4 (L.length + k + 1) vc4))
                have O5 := hid (O4.out.other (a := ⟨w.heap.size, 1, none⟩) (by show w.heap.size + 1 ≠ w.heap.size; omega) (.slice va4 (L.length + k + 1) vc4))
                have H1' := hid (H1.out.setCell_below (a := ⟨w.heap.size, 1, none⟩) hN (.slice va4 (L.length + k + 1) vc4))
                have HT' := hid (HT.out.setCell_below (a := ⟨w.heap.size, 1, none⟩) hN (.slice va4 (L.length + k + 1) vc4))
                have H2' := hid ((HG.out.setCell_below (a := ⟨w.heap.size, 1, none⟩) hN (.slice va4 (L.length + k + 1) vc4)).cast2 rfl HEN.out)
                have B5 := hid (B4.out.setCell (p := ⟨w.heap.size, 1, none⟩) (Nat.le_refl _) (.slice va4 (L.length + k + 1) vc4))
                clear X4 O4 H1 HT HG B4
                go_simp
                refine hK _ _ ?_
                clear hK K c0 c1 f1
                go_wp2_with fail
                go_roundw
                case rel => exact ⟨k + 1, va4, vc4, by omega, by go_num, X5.out, H2'.out, H1'.out, HT'.out, O5.out, B5.out⟩
                case measure => simp [intOf]; omega
              · obtain rfl : k = T.length := by omega
                have k0 := O.out.cell (i := 0) rfl
                have k1 := O.out.cell (i := 1) rfl
                have l0 := O.out.free 0
                have l1 := O.out.free 1
                rw [apTo_end] at G2
                go_wp2_with fail
                have F := (O.out.set 0 (.slice xa S.length xc)).set 1 (.slice ea (L.length + T.length) ec)
                have y0 := F.cell (i := 0) rfl
                have y1 := F.cell (i := 1) rfl
                clear F
                refine bodyPost_ret (v := .tuple #[.agg #[.slice xa S.length xc, .slice ea (L.length + T.length) ec], .int .i64 (t + (T.length : Int)), .bool true]) (by simp [results, Try.results34, go_sem, y0, y1]) rfl ?_
                refine ⟨_, rfl, ⟨_, _, rfl, ?_, ?_⟩, (B.out.setCell (p := ⟨w.heap.size + 1, 0, none⟩) (Nat.le_succ _) _).setCell (p := ⟨w.heap.size + 1, 1, none⟩) (Nat.le_succ _) _⟩
                · exact ((G1.out.setCell_below (a := ⟨w.heap.size + 1, 0, none⟩) hO _).setCell_below (a := ⟨w.heap.size + 1, 1, none⟩) hO _).mono (by omega)
                · exact (((G2.out.setCell_below (a := ⟨w.heap.size + 1, 0, none⟩) hO _).setCell_below (a := ⟨w.heap.size + 1, 1, none⟩) hO _).mono (by omega)).cast2 (by rw [List.length_append, apW_len]) rfl
          · have dR : decide (T.length + L.length ≤ 3000) = false := decide_eq_false hR
            have bR : (3000 : Int) - (L.length : Int) < (T.length : Int) := by omega
            have HR : R = false := by rw [HD.out, hO1, dT, dt, dS, dR]; rfl
            subst HR
            obtain ⟨e1, e2⟩ := HN.out rfl
            subst e1
            subst e2
            go_wp2_with (go_at_call 25; refine HOK.out.mono ?_; rintro e w4 ⟨rfl, hb⟩; replace B := hid (B.out.trans (hb.mono B.out.size)); replace N := hid (N.out.below hb N.out.lt); replace O := hid (O.out.below hb O.out.lt); replace G1 := hid (G1.out.below hb); replace G2 := hid (G2.out.below hb); replace GT := hid (GT.out.below hb); have hw34 := hb.size; clear hb z0 z1; have z0 := N.out.cell (i := 0) rfl; have z1 := N.out.cell (i := 1) rfl; have k0 := O.out.cell (i := 0) rfl; have k1 := O.out.cell (i := 1) rfl; have l0 := O.out.free 0; have l1 := O.out.free 1; have m1 := N.out.free 1)
            have F := (O.out.set 0 (.slice xa S.length xc)).set 1 (.slice ya RL.length yc)
            have y0 := F.cell (i := 0) rfl
            have y1 := F.cell (i := 1) rfl
            clear F
            refine bodyPost_ret (v := .tuple #[.agg #[.slice xa S.length xc, .slice ya RL.length yc], .int .i64 RN, .bool false]) (by simp [results, Try.results34, go_sem, y0, y1]) rfl ?_
            refine ⟨_, rfl, ⟨_, _, rfl, ?_, ?_⟩, (B.out.setCell (p := ⟨w.heap.size + 1, 0, none⟩) (Nat.le_succ _) _).setCell (p := ⟨w.heap.size + 1, 1, none⟩) (Nat.le_succ _) _⟩
            · exact ((G1.out.setCell_below (a := ⟨w.heap.size + 1, 0, none⟩) hO _).setCell_below (a := ⟨w.heap.size + 1, 1, none⟩) hO _).mono (by omega)
            · exact ((G2.out.setCell_below (a := ⟨w.heap.size + 1, 0, none⟩) hO _).setCell_below (a := ⟨w.heap.size + 1, 1, none⟩) hO _).mono (by omega)
        · have dS : decide (t + T.length ≤ S.length) = false := decide_eq_false hS
          have bS : (S.length : Int) - t < (T.length : Int) := by omega
          have HR : R = false := by rw [HD.out, hO1, dT, dt, dS]; rfl
          subst HR
          obtain ⟨e1, e2⟩ := HN.out rfl
          subst e1
          subst e2
          go_wp2_with (go_at_call 25; refine HOK.out.mono ?_; rintro e w4 ⟨rfl, hb⟩; replace B := hid (B.out.trans (hb.mono B.out.size)); replace N := hid (N.out.below hb N.out.lt); replace O := hid (O.out.below hb O.out.lt); replace G1 := hid (G1.out.below hb); replace G2 := hid (G2.out.below hb); replace GT := hid (GT.out.below hb); have hw34 := hb.size; clear hb z0 z1; have z0 := N.out.cell (i := 0) rfl; have z1 := N.out.cell (i := 1) rfl; have k0 := O.out.cell (i := 0) rfl; have k1 := O.out.cell (i := 1) rfl; have l0 := O.out.free 0; have l1 := O.out.free 1; have m1 := N.out.free 1)
          have F := (O.out.set 0 (.slice xa S.length xc)).set 1 (.slice ya RL.length yc)
          have y0 := F.cell (i := 0) rfl
          have y1 := F.cell (i := 1) rfl
          clear F
          refine bodyPost_ret (v := .tuple #[.agg #[.slice xa S.length xc, .slice ya RL.length yc], .int .i64 RN, .bool false]) (by simp [results, Try.results34, go_sem, y0, y1]) rfl ?_
          refine ⟨_, rfl, ⟨_, _, rfl, ?_, ?_⟩, (B.out.setCell (p := ⟨w.heap.size + 1, 0, none⟩) (Nat.le_succ _) _).setCell (p := ⟨w.heap.size + 1, 1, none⟩) (Nat.le_succ _) _⟩
          · exact ((G1.out.setCell_below (a := ⟨w.heap.size + 1, 0, none⟩) hO _).setCell_below (a := ⟨w.heap.size + 1, 1, none⟩) hO _).mono (by omega)
          · exact ((G2.out.setCell_below (a := ⟨w.heap.size + 1, 0, none⟩) hO _).setCell_below (a := ⟨w.heap.size + 1, 1, none⟩) hO _).mono (by omega)
      · have dt : decide (0 ≤ t) = false := decide_eq_false ht
        have bt : t < 0 := by omega
        have HR : R = false := by rw [HD.out, hO1, dT, dt]; rfl
        subst HR
        obtain ⟨e1, e2⟩ := HN.out rfl
        subst e1
        subst e2
        go_wp2_with (go_at_call 25; refine HOK.out.mono ?_; rintro e w4 ⟨rfl, hb⟩; replace B := hid (B.out.trans (hb.mono B.out.size)); replace N := hid (N.out.below hb N.out.lt); replace O := hid (O.out.below hb O.out.lt); replace G1 := hid (G1.out.below hb); replace G2 := hid (G2.out.below hb); replace GT := hid (GT.out.below hb); have hw34 := hb.size; clear hb z0 z1; have z0 := N.out.cell (i := 0) rfl; have z1 := N.out.cell (i := 1) rfl; have k0 := O.out.cell (i := 0) rfl; have k1 := O.out.cell (i := 1) rfl; have l0 := O.out.free 0; have l1 := O.out.free 1; have m1 := N.out.free 1)
        have F := (O.out.set 0 (.slice xa S.length xc)).set 1 (.slice ya RL.length yc)
        have y0 := F.cell (i := 0) rfl
        have y1 := F.cell (i := 1) rfl
        clear F
        refine bodyPost_ret (v := .tuple #[.agg #[.slice xa S.length xc, .slice ya RL.length yc], .int .i64 RN, .bool false]) (by simp [results, Try.results34, go_sem, y0, y1]) rfl ?_
        refine ⟨_, rfl, ⟨_, _, rfl, ?_, ?_⟩, (B.out.setCell (p := ⟨w.heap.size + 1, 0, none⟩) (Nat.le_succ _) _).setCell (p := ⟨w.heap.size + 1, 1, none⟩) (Nat.le_succ _) _⟩
        · exact ((G1.out.setCell_below (a := ⟨w.heap.size + 1, 0, none⟩) hO _).setCell_below (a := ⟨w.heap.size + 1, 1, none⟩) hO _).mono (by omega)
        · exact ((G2.out.setCell_below (a := ⟨w.heap.size + 1, 0, none⟩) hO _).setCell_below (a := ⟨w.heap.size + 1, 1, none⟩) hO _).mono (by omega)
    · have dT : decide (0 < T.length) = false := decide_eq_false hT
      have bT : ((T.length : Int) == 0) = true := beq_iff_eq.2 (by omega)
      have HR : R = false := by rw [HD.out, hO1, dT]; rfl
      subst HR
      obtain ⟨e1, e2⟩ := HN.out rfl
      subst e1
      subst e2
      go_wp2_with (go_at_call 25; refine HOK.out.mono ?_; rintro e w4 ⟨rfl, hb⟩; replace B := hid (B.out.trans (hb.mono B.out.size)); replace N := hid (N.out.below hb N.out.lt); replace O := hid (O.out.below hb O.out.lt); replace G1 := hid (G1.out.below hb); replace G2 := hid (G2.out.below hb); replace GT := hid (GT.out.below hb); have hw34 := hb.size; clear hb z0 z1; have z0 := N.out.cell (i := 0) rfl; have z1 := N.out.cell (i := 1) rfl; have k0 := O.out.cell (i := 0) rfl; have k1 := O.out.cell (i := 1) rfl; have l0 := O.out.free 0; have l1 := O.out.free 1; have m1 := N.out.free 1)
      have F := (O.out.set 0 (.slice xa S.length xc)).set 1 (.slice ya RL.length yc)
      have y0 := F.cell (i := 0) rfl
      have y1 := F.cell (i := 1) rfl
      clear F
      refine bodyPost_ret (v := .tuple #[.agg #[.slice xa S.length xc, .slice ya RL.length yc], .int .i64 RN, .bool false]) (by simp [results, Try.results34, go_sem, y0, y1]) rfl ?_
      refine ⟨_, rfl, ⟨_, _, rfl, ?_, ?_⟩, (B.out.setCell (p := ⟨w.heap.size + 1, 0, none⟩) (Nat.le_succ _) _).setCell (p := ⟨w.heap.size + 1, 1, none⟩) (Nat.le_succ _) _⟩
      · exact ((G1.out.setCell_below (a := ⟨w.heap.size + 1, 0, none⟩) hO _).setCell_below (a := ⟨w.heap.size + 1, 1, none⟩) hO _).mono (by omega)
      · exact ((G2.out.setCell_below (a := ⟨w.heap.size + 1, 0, none⟩) hO _).setCell_below (a := ⟨w.heap.size + 1, 1, none⟩) hO _).mono (by omega)
end Go.Proofs.Ytphhgfgmlfdkiaa
