/- The contract of the specification's l05Codes and GetCodes. -/
import Derived.Test.YtecophkllnhabaaGc
namespace Go.Proofs.Ytecophkllnhabaa
open Go.RowKit
set_option linter.unusedVariables false

/-- What l05Codes answers: the numbers at a place that may be codes. -/
def rawR (s : ByteArray) (i : Nat) : Option (List Int × List Int) :=
  if told (bts s i 16) 16 ≤ 255 ∧ (i : Int) + 16 + told (bts s i 16) 16 ≤ s.size then some (bts s i 16, bts s (i + 16) (told (bts s i 16) 16).toNat) else none
theorem told_step (s : ByteArray) (i k : Nat) (hk : k < 16) : told (bts s i 16) (k + 1) = told (bts s i 16) k + bt s (i + k) := by
  show told (bts s i 16) k + (bts s i 16).getD k 0 = _
  rw [bts_get s i 16 k hk]
theorem told_bd (s : ByteArray) (i : Nat) : ∀ k, k ≤ 16 → 0 ≤ told (bts s i 16) k ∧ told (bts s i 16) k ≤ 255 * k
  | 0, _ => by simp [told]
  | k + 1, h => by
    have ih := told_bd s i k (by omega)
    have h1 := bt_nonneg s (i + k)
    have h2 := bt_lt s (i + k)
    rw [told_step s i k (by omega)]
    omega

theorem Own.belowM {w w' : World} {base M : Nat} {e : TypeId} {k : IntKind} {v : Value} {xs : List Int} (h : Own w base e k v xs) (hm : ∀ a n c, v = .slice (some a) n c → a.block < M) (hb : Below M w w') : Own w' base e k v xs := by
  refine ⟨Nat.le_trans h.1 hb.size, h.2.1, ?_⟩
  rcases h.2.2 with h0 | ⟨g, cap, cur, hv, hg, hh, r⟩
  · exact .inl h0
  · exact .inr ⟨g, cap, cur, hv, hg, (hb.block g (hm _ _ _ hv)).trans hh, r⟩

set_option maxHeartbeats 800000 in
theorem raw_short (s : ByteArray) (i : Int) (w : World) (hs : s.size ≤ 1048576) (h0 : 0 ≤ i) (h : (s.size : Int) < i + 16) :
    Calls Try.prog 42 #[.string s, .int .i64 i] w fun e w' => e = .returned (.tuple #[.agg #[.slice none 0 0, .slice none 0 0], .int .i64 (-1)]) ∧ Below w.heap.size w w' := by
  have HT := hid (Two.new w (.slice none 0 0) (.slice none 0 0) 32)
  have HB := hid ((Below.refl w.heap.size w).alloc (Nat.le_refl _) (.cells #[.slice none 0 0, .slice none 0 0] 32))
  obtain ⟨q0, q1, q2, q3⟩ := HT.out.cells
  have hin := in_no (x := i) (a := 0) (b := (s.size : Int) - 16) (by omega)
  go_enter Try.func42, Try.ntmps42
  go_wp2_with (go_at_call 41; refine (spec_in _ _ _ _).mono ?_; rw [hin]; rintro e w' ⟨rfl, rfl⟩)
  refine bodyPost_ret (v := .tuple #[.agg #[.slice none 0 0, .slice none 0 0], .int .i64 (-1)]) (by simp [results, Try.results42, go_sem, q0, q1]) rfl ⟨rfl, HB.out⟩

set_option maxRecDepth 100000 in
set_option maxHeartbeats 3200000 in
theorem raw_at (s : ByteArray) (i : Nat) (w : World) (hs : s.size ≤ 1048576) (h : i + 16 ≤ s.size) :
    Calls Try.prog 42 #[.string s, .int .i64 (i : Int)] w (GcP w i (rawR s i)) := by
  obtain ⟨QQ, hQ1, HQ⟩ : ∃ QQ : Ending → World → Prop, QQ = GcP w i (rawR s i) ∧ Hid (∀ e w', GcP w i (rawR s i) e w' → QQ e w') := ⟨_, rfl, fun _ _ h => h⟩
  rw [← hQ1]
  have HRR := hid (show rawR s i = if told (bts s i 16) 16 ≤ 255 ∧ (i : Int) + 16 + told (bts s i 16) 16 ≤ s.size then some (bts s i 16, bts s (i + 16) (told (bts s i 16) 16).toNat) else none from rfl)
  have HTS := hid (told_step s i)
  have HTB := hid (told_bd s i)
  have HBS := hid (bts_succ s i)
  have HBL := hid (bts_length s)
  have HT := hid ((Two.new w (.slice none 0 0) (.slice none 0 0) 32).below ((Below.refl _ _).alloc (Nat.le_refl _) (.cells #[.slice none 0 0, .slice none 0 0] 32)) (Two.new w (.slice none 0 0) (.slice none 0 0) 32).lt)
  have HD := hid (Two.new (w.alloc (.cells #[.slice none 0 0, .slice none 0 0] 32)) (.slice none 0 0) (.slice none 0 0) 32)
  have HB := hid (((Below.refl w.heap.size w).alloc (Nat.le_refl _) (.cells #[.slice none 0 0, .slice none 0 0] 32)).alloc (by simp) (.cells #[.slice none 0 0, .slice none 0 0] 32))
  simp only [World.size_alloc] at HD
  have hin := in_yes (x := (i : Int)) (a := 0) (b := (s.size : Int) - 16) (by omega)
  clear hQ1
  go_enter Try.func42, Try.ntmps42
  go_wp2_with (go_at_call 41; refine (spec_in _ _ _ _).mono ?_; rw [hin]; rintro e w' ⟨rfl, rfl⟩)
  generalize (w.alloc (.cells #[.slice none 0 0, .slice none 0 0] 32)).alloc (.cells #[.slice none 0 0, .slice none 0 0] 32) = wa at *
  have hwa := HD.out.lt
  clear hin
  go_loopw [7, 8] (fun n j wr => ∃ (k : Nat) (y : Value), k ≤ 16 ∧ j = .int .i64 k ∧ n = .int .i64 (told (bts s i 16) k) ∧ Hid (Two wr (w.heap.size + 1) y (.slice none 0 0) 32) ∧ Own wr (w.heap.size + 1 + 1) 3 .i64 y (bts s i k) ∧ Hid (Two wr w.heap.size (.slice none 0 0) (.slice none 0 0) 32) ∧ Hid (Below w.heap.size w wr)) (fun _ j _ => 16 - (intOf j).toNat)
  case atStart => exact ⟨0, _, by omega, rfl, rfl, HD.out, Own.nil _ 3 .i64 _ (by omega), HT.out, HB.out⟩
  case round =>
    obtain ⟨k, y, hk, rfl, rfl, hd, hown, ht, hb⟩ := hrel
    obtain ⟨p0, p1, p2, p3⟩ := hd.out.cells
    have tb := HTB.out k hk
    by_cases hlt : k < 16
    · have hlt' : (k : Int) < 16 := by omega
      have hik : i + k < s.size := by omega
      have hik' : (i : Int) + (k : Int) < (s.size : Int) := by omega
      have hst := hid (HBS.out k)
      have htn := hid (HTS.out k hlt)
      rw [bt_eq s (i + k) hik] at hst htn
      have hik0 : (0 : Int) ≤ (i : Int) + (k : Int) := by omega
      have hx0 : (0 : Int) ≤ (s[i + k].toNat : Int) := by omega
      have hx1 : (s[i + k].toNat : Int) < 256 := byte_lt _
      have hlen : (bts s i k).length < 1000000000000 := by rw [HBL.out]; omega
      have hge := hown.shape
      generalize told (bts s i 16) k = TT at *
      go_wp2_with (at_builtin; refine wpList_push _ rfl _ _ 22 rfl _ 3 .i64 0 8 Try.underlying22 Try.info3 _ _ rfl hown _ rfl hlen (by decide) ?_)
      intro v1 w1 hown1 hb1
      have hd1 := hid (hd.out.below hb1 (by omega))
      have ht1 := hid (ht.out.below hb1 (by omega))
      have hb2 := hid (hb.out.trans (hb1.mono (by omega)))
      have HO1 := hid hown1
      obtain ⟨ao, cap, rfl⟩ := hown1.shape
      obtain ⟨r0, r1, r2, r3⟩ := hd1.out.cells
      have hd2 := hid (hd1.out.set0 (.slice ao (bts s i k ++ [(s[i + k].toNat : Int)]).length cap))
      have ht2 := hid (ht1.out.other (show w.heap.size ≠ w.heap.size + 1 by omega) (i := 0) (.slice ao (bts s i k ++ [(s[i + k].toNat : Int)]).length cap))
      have hb3 := hid (hb2.out.setCell (p := ⟨w.heap.size + 1, 0, none⟩) (show w.heap.size ≤ w.heap.size + 1 by omega) (.slice ao (bts s i k ++ [(s[i + k].toNat : Int)]).length cap))
      have ho2 := hid (HO1.out.setCell_below (a := ⟨w.heap.size + 1, 0, none⟩) (show w.heap.size + 1 < w.heap.size + 1 + 1 by omega) (.slice ao (bts s i k ++ [(s[i + k].toNat : Int)]).length cap))
      clear hown1 hown
      generalize (bts s i k ++ [(s[i + k].toNat : Int)]).length = LL at *
      go_wp2
      go_roundw
      case rel => exact ⟨k + 1, _, by omega, by go_num, val_int htn.out.symm, hd2.out, by rw [hst.out]; exact ho2.out, ht2.out, hb3.out⟩
      case measure => simp [intOf]; omega
    · have hk16 : k = 16 := by omega
      have hge : ¬ (k : Int) < 16 := by omega
      have TB2 := hid (HTB.out k hk)
      rw [hk16] at hown TB2
      have hTeq : told (bts s i 16) k = told (bts s i 16) 16 := by rw [hk16]
      rw [hTeq]
      obtain ⟨T, hTT⟩ : ∃ T : Nat, told (bts s i 16) 16 = (T : Int) := ⟨(told (bts s i 16) 16).toNat, by have := TB2.out; omega⟩
      rw [hTT] at HRR TB2 ⊢
      rw [show ((T : Int)).toNat = T from rfl] at HRR
      have hT5 : T ≤ 4080 := by have := TB2.out; omega
      have HO := hid hown
      have hsz := hd.out.lt
      have hOA : Hid (∀ (a : Addr) n c, y = .slice (some a) n c → a.block < wr.heap.size) := by
        intro a n c e
        subst e
        exact hown.ge.2
      obtain ⟨yo, yc, rfl⟩ := hown.shape
      rw [HBL.out] at HO hd p0 hOA
      clear hk16 hk hlt tb hTeq hTT hown TB2 HTS HTB HT HB HD
      obtain ⟨q0, q1, q2, q3⟩ := ht.out.cells
      by_cases hfit : T ≤ 255 ∧ i + 16 + T ≤ s.size
      · rw [if_pos ⟨by omega, by omega⟩] at HRR
        rw [HRR.out] at HQ
        obtain ⟨f1, f2⟩ := hfit
        have g1 : ¬ (255 : Int) < (T : Int) := by omega
        have g2 : ¬ (s.size : Int) - (i : Int) - 16 < (T : Int) := by omega
        have HF2 := hid f2
        have HIH := hid h
        clear f2 h
        obtain ⟨M, hM⟩ : ∃ M, M = wr.heap.size := ⟨_, rfl⟩
        have HON := hid (Own.nil wr 3 .i64 M (by omega))
        rw [← hM] at hOA hsz
        clear hM
        have HBS2 := hid (bts_succ s (i + 16))
        go_wp2
        go_loopw [10] (fun j wq => ∃ (k : Nat) (y : Value), k ≤ T ∧ j = .int .i64 k ∧ Hid (Two wq (w.heap.size + 1) (.slice yo 16 yc) y 32) ∧ Own wq M 3 .i64 y (bts s (i + 16) k) ∧ Hid (Own wq (w.heap.size + 1 + 1) 3 .i64 (.slice yo 16 yc) (bts s i 16)) ∧ Hid (Two wq w.heap.size (.slice none 0 0) (.slice none 0 0) 32) ∧ Hid (Below w.heap.size w wq)) (fun j _ => T - (intOf j).toNat)
        case atStart => exact ⟨0, _, by omega, rfl, hd.out, HON.out, HO.out, ht.out, hb.out⟩
        case round =>
          clear HON HO ht hb hd p0 p1 p2 p3 q0 q1 q2 q3
          obtain ⟨k, y, hk, rfl, hd, hown, hfst, ht, hb⟩ := hrel
          obtain ⟨p0, p1, p2, p3⟩ := hd.out.cells
          by_cases hlt : k < T
          · have hlt' : (k : Int) < (T : Int) := by omega
            have hik : i + 16 + k < s.size := by have := HF2.out; omega
            have hik' : (i : Int) + 16 + (k : Int) < (s.size : Int) := by omega
            have hst := hid (HBS2.out k)
            rw [bt_eq s (i + 16 + k) hik] at hst
            have hik0 : (0 : Int) ≤ (i : Int) + 16 + (k : Int) := by omega
            have hx0 : (0 : Int) ≤ (s[i + 16 + k].toNat : Int) := by omega
            have hx1 : (s[i + 16 + k].toNat : Int) < 256 := byte_lt _
            have hlen : (bts s (i + 16) k).length < 1000000000000 := by rw [HBL.out]; omega
            obtain ⟨yo2, yc2, rfl⟩ := hown.shape
            have hO2 := hid hown
            clear hown
            have hw1 : IntKind.i64.wrap ((i : Int) + 16) = (i : Int) + 16 := by rw [IntKind.wrap_i64]; omega
            have hw2 : IntKind.i64.wrap ((i : Int) + 16 + (k : Int)) = (i : Int) + 16 + (k : Int) := by rw [IntKind.wrap_i64]; omega
            have hw3 : IntKind.i64.wrap (s[i + 16 + k].toNat : Int) = (s[i + 16 + k].toNat : Int) := by rw [IntKind.wrap_i64]; omega
            have hTN : ((i : Int) + 16 + (k : Int)).toNat = i + 16 + k := by omega
            rw [HBL.out] at hO2 hd p1
            have HD := hid (fun q (hq : Below M wr q) => (hd.out.below hq (by omega)).cells)
            obtain ⟨t0, t1, t2, t3⟩ := (hd.out.below ((Below.refl wr.heap.size wr).alloc (Nat.le_refl _) (.cells #[.int .i64 (s[i + 16 + k].toNat : Int)] 3)) hd.out.lt).cells
            go_wp2_with fail
            go_region_law (refine step_push1g wr.drew wr.heap.size (by rfl) rfl (.tmp 56) (.tmp 64) 22 rfl M 3 .i64 0 8 Try.underlying22 Try.info3 (.slice yo2 k yc2) (bts s (i + 16) k) (by rfl) hO2.out.drew1 (s[i + 16 + k].toNat : Int) (by rfl) hlen (by decide) ?_; intro v1 w1 hown1 hb0; have hb1 : Below M wr w1 := Below.trans (Below.refl M wr).drew hb0; have HO1 := hid hown1; obtain ⟨ao, cap, rfl⟩ := hown1.shape; obtain ⟨r0, r1, r2, r3⟩ := HD.out _ hb1; clear hown1)
            all_goals
              have hd1 := hid (hd.out.below hb1 (by omega))
              have ht1 := hid (ht.out.below hb1 (by omega))
              have hf1 := hid (hfst.out.belowM hOA.out hb1)
              have hb2 := hid (hb.out.trans (hb1.mono (by omega)))
              simp only [List.length_append, List.length_cons, List.length_nil, Nat.zero_add] at HO1
              have hd2 := hid (hd1.out.set1 (.slice ao ((bts s (i + 16) k).length + 1) cap))
              have ht2 := hid (ht1.out.other (show w.heap.size ≠ w.heap.size + 1 by omega) (i := 1) (.slice ao ((bts s (i + 16) k).length + 1) cap))
              have hb3 := hid (hb2.out.setCell (p := ⟨w.heap.size + 1, 1, none⟩) (show w.heap.size ≤ w.heap.size + 1 by omega) (.slice ao ((bts s (i + 16) k).length + 1) cap))
              have ho2 := hid (HO1.out.setCell_below (a := ⟨w.heap.size + 1, 1, none⟩) (show w.heap.size + 1 < M by omega) (.slice ao ((bts s (i + 16) k).length + 1) cap))
              have hf2 := hid (hf1.out.setCell_below (a := ⟨w.heap.size + 1, 1, none⟩) (show w.heap.size + 1 < w.heap.size + 1 + 1 by omega) (.slice ao ((bts s (i + 16) k).length + 1) cap))
              clear hb0 hb1
              go_wp2
              go_roundw
              case rel => exact ⟨k + 1, _, by omega, by go_num, hd2.out, by rw [hst.out]; exact ho2.out, hf2.out, ht2.out, hb3.out⟩
              case measure => simp [intOf]; omega
          · have hkT : k = T := by omega
            have hge2 : ¬ (k : Int) < (T : Int) := by omega
            rw [hkT] at hown
            have HOW := hid hown
            obtain ⟨zo, zc, rfl⟩ := hown.shape
            rw [HBL.out] at HOW hd p1
            have hf0 : (i : Int) + 16 + (T : Int) ≤ (s.size : Int) := by have := HF2.out; omega
            obtain ⟨q0, q1, q2, q3⟩ := ht.out.cells
            have T6 := hid ((ht.out.set0 (.slice yo 16 yc)).set1 (.slice zo T zc))
            obtain ⟨r0, r1, r2, r3⟩ := T6.out.cells
            have B6 := hid ((hb.out.setCell (p := ⟨w.heap.size, 0, none⟩) (Nat.le_refl _) (.slice yo 16 yc)).setCell (p := ⟨w.heap.size, 1, none⟩) (Nat.le_refl _) (.slice zo T zc))
            have HO6 := hid ((hfst.out.setCell_below (a := ⟨w.heap.size, 0, none⟩) (show w.heap.size < w.heap.size + 1 + 1 by omega) (.slice yo 16 yc)).setCell_below (a := ⟨w.heap.size, 1, none⟩) (show w.heap.size < w.heap.size + 1 + 1 by omega) (.slice zo T zc))
            have HP6 := hid ((HOW.out.setCell_below (a := ⟨w.heap.size, 0, none⟩) (show w.heap.size < M by omega) (.slice yo 16 yc)).setCell_below (a := ⟨w.heap.size, 1, none⟩) (show w.heap.size < M by omega) (.slice zo T zc))
            have HLT := hid (HBL.out (i + 16) T)
            clear hkT hk hlt hown
            go_wp2
            refine bodyPost_ret (v := .tuple #[.agg #[.slice yo 16 yc, .slice zo T zc], .int .i64 ((i : Int) + 16 + (T : Int))]) (by simp [results, Try.results42, go_sem, r0, r1]) rfl (HQ.out _ _ ⟨_, ?_, ⟨_, _, M, rfl, by omega, HO6.out.lower (by omega), HP6.out, hOA.out⟩, B6.out⟩)
            show _ = Ending.returned (.tuple #[_, .int .i64 ((i : Int) + 16 + ((bts s (i + 16) T).length : Int))])
            rw [HLT.out]
      · rw [if_neg (fun hh => hfit (by omega))] at HRR
        rw [HRR.out] at HQ
        have T6 := hid ((ht.out.set0 (.slice none 0 0)).set1 (.slice none 0 0))
        obtain ⟨r0, r1, r2, r3⟩ := T6.out.cells
        have B6 := hid ((hb.out.setCell (p := ⟨w.heap.size, 0, none⟩) (Nat.le_refl _) (.slice none 0 0)).setCell (p := ⟨w.heap.size, 1, none⟩) (Nat.le_refl _) (.slice none 0 0))
        by_cases f1 : T ≤ 255
        · have g1 : ¬ (255 : Int) < (T : Int) := by omega
          have g2 : (s.size : Int) - (i : Int) - 16 < (T : Int) := by omega
          clear hfit
          go_wp2
          refine bodyPost_ret (v := .tuple #[.agg #[.slice none 0 0, .slice none 0 0], .int .i64 (-1)]) (by simp [results, Try.results42, go_sem, r0, r1]) rfl (HQ.out _ _ ⟨_, rfl, COwn.nil _ _ B6.out.size, B6.out⟩)
        · have g1 : (255 : Int) < (T : Int) := by omega
          clear hfit f1
          go_wp2
          refine bodyPost_ret (v := .tuple #[.agg #[.slice none 0 0, .slice none 0 0], .int .i64 (-1)]) (by simp [results, Try.results42, go_sem, r0, r1]) rfl (HQ.out _ _ ⟨_, rfl, COwn.nil _ _ B6.out.size, B6.out⟩)
end Go.Proofs.Ytecophkllnhabaa
