/- The program's reader of scans: its blocks. -/
import Derived.Test.YtcikmgdfelejpaaJRdS
import Derived.Test.YtcikmgdfelejpaaJScL
namespace Go.Proofs.Ytcikmgdfelejpaa
open Go.RowKit Go.Maps
set_option linter.unusedVariables false

theorem Ef.thenBelow {C B : Nat} {a b c : World} (h : Ef C a b) (k : Below B b c) (hB : a.heap.size ≤ B) : Ef C a c :=
  ⟨k.os.trans h.os, k.tape.trans h.tape, k.output.trans h.output, Nat.le_trans h.size k.size, fun g hg hne => (k.block g (by omega)).trans (h.block g hg hne)⟩
theorem Two.ef {w w' : World} {C b : Nat} {x y : Value} {t : TypeId} (h : Two w b x y t) (hb : Ef C w w') (hB : b ≠ C) : Two w' b x y t := (hb.block b h.lt (fun e => hB (Option.some.inj e))).trans h
theorem BookAt.ef {w w' : World} {C M b : Nat} {ss : List Int} {K : List (Nat × Int)} {x y z v : Value} {t : TypeId} (h : BookAt w C M ss K) (ht : Four w b x y z v t) (hne : t ≠ 143) (he : Ef b w w') : BookAt w' C M ss K := by
  obtain ⟨⟨arr, h1, h2⟩, h3⟩ := h
  have hM := h3.lt
  obtain ⟨es, clock, hh, r⟩ := h3
  have hCb : C ≠ b := fun e => by
    subst e
    unfold Four at ht
    unfold Arr at h1
    rw [h1] at ht
    cases ht
    exact hne rfl
  have hMb : M ≠ b := fun e => by
    subst e
    unfold Four at ht
    rw [hh] at ht
    cases ht
  exact ⟨⟨arr, (he.block C h1.lt (fun e => hCb (Option.some.inj e))).trans h1, h2⟩, es, clock, (he.block M hM (fun e => hMb (Option.some.inj e))).trans hh, r⟩
theorem RS.ef {w0 w w' : World} {b C1 C2 : Nat} {ao : Option Addr} {cap : Nat} {T : Tb} {xs : List Int} {i n : Nat} (h : RS w0 w b C1 C2 ao cap T xs i) (he : Ef b w w') (hf : Four w' b (.pointer (some ⟨C1, 0, none⟩)) (.pointer (some ⟨C2, 0, none⟩)) (.slice ao xs.length cap) (.int .i64 n) 95) (hn : n ≤ xs.length) : RS w0 w' b C1 C2 ao cap T xs n := by
  obtain ⟨h1, h2, h3, h4, ⟨M, h5⟩, M', h6⟩ := h
  exact ⟨⟨h1.1, hn, h1.2.2.1, h1.2.2.2⟩, h2.trans (he.below h1.1 h2.size), h3, hf, ⟨M, h5.ef h4 (by decide) he⟩, M', h6.ef h4 (by decide) he⟩
theorem Own.ef {w w' : World} {base b : Nat} {v : Value} {xs : List Int} (h : Own w base 3 .i64 v xs) (he : Ef b w w') (hb : b < base) : Own w' base 3 .i64 v xs :=
  h.keepM he.size (fun g h1 h2 => he.block g h2 (fun e => by have := Option.some.inj e; omega))
theorem RdA.ef {w w' : World} {g base b : Nat} {ac : List Int} {kd : Int} (h : RdA w g base ac kd) (he : Ef b w w') (hb : b < base) : RdA w' g base ac kd := by
  obtain ⟨h1, v, h2, h3⟩ := h
  exact ⟨h1, v, h2.ef he (by omega), h3.ef he hb⟩
theorem takeR_more {ac ac' : List Int} {sk sk' : Bool} {s : Int × Int × List Int} (hl : ac.length ≤ 63) (h : takeR (ac, sk) s = some (ac', sk')) : ac.length < ac'.length := by
  obtain ⟨r, n, bits⟩ := s
  by_cases hf : ac.length = 63
  · rw [takeR_full hf] at h; cases h
  by_cases hg : GoodRest n bits
  · rw [takeR_kind hg hf] at h
    split at h
    · split at h
      · cases h
        simp only [List.length_append, List.length_singleton]; omega
      · cases h
    · split at h
      · split at h
        · cases h
          simp only [List.length_append, List.length_replicate]; omega
        · cases h
      · split at h
        · split at h
          · cases h
          · cases h
            simp only [List.length_append, List.length_replicate]; omega
        · cases h
  · rw [takeR_bad hg] at h; cases h
theorem frv_bd {xs : List Int} (hl : xs.length ≤ 11) (hall : AllBits xs) : -2048 ≤ frv xs ∧ frv xs ≤ 2048 := by
  have hp := pow_small xs.length hl
  have hn := num_bd (pad xs) (pad_bit xs hall) 0 xs.length
  by_cases h : 0 < xs.length ∧ xs.getD 0 0 = 0
  · rw [frv_low h]; omega
  · rw [frv_high h]; omega
theorem shiftR_bd {T : Tb} {xs : List Int} {i n : Nat} {x : Int} (hall : AllBits xs) (h : shiftR T xs i = some (x, n)) : -2048 ≤ x ∧ x ≤ 2048 := by
  unfold shiftR at h
  cases hs : T.sym 0 xs i with
  | none => rw [hs] at h; cases h
  | some q =>
    rw [hs] at h
    have h' : (if (xs.length : Int) - q.2 < q.1 then none else if q.1 ≤ 11 then some (frv ((xs.drop q.2).take q.1.toNat), q.2 + q.1.toNat) else none) = some (x, n) := h
    split at h'
    · cases h'
    · split at h'
      · rename_i h1 h2
        cases h'
        exact frv_bd (by simp only [List.length_take]; omega) (hall.sub _ _)
      · cases h'

/-- No block stands at a place. -/
def NoB (T : Tb) (xs : List Int) (i : Nat) (ahead : Int) : Prop := ∀ x n, shiftR T xs i = some (x, n) → inC (ahead + x) = true → ∀ ac p, ¬ Good T xs n ac p
/-- The block at a place, and the place behind it. -/
def IsB (T : Tb) (xs : List Int) (i : Nat) (ahead : Int) (d : Int) (ac : List Int) (p : Nat) : Prop := ∃ x n, shiftR T xs i = some (x, n) ∧ d = ahead + x ∧ inC d = true ∧ Good T xs n ac p
/-- What the reader's block answers. -/
def BkP (w0 w : World) (b C1 C2 : Nat) (ao : Option Addr) (cap : Nat) (T : Tb) (xs : List Int) (i : Nat) (ahead : Int) (e : Ending) (w' : World) : Prop :=
  ((∃ d ac p v, IsB T xs i ahead d ac p ∧ e = .returned (.tuple #[.agg #[.int .i64 d, v], .bool true]) ∧ Own w' w.heap.size 3 .i64 v ac ∧ RS w0 w' b C1 C2 ao cap T xs p) ∨ (NoB T xs i ahead ∧ e = .returned (.tuple #[.agg #[.int .i64 0, .slice none 0 0], .bool false]))) ∧ Ef b w w'
theorem BkP.no {w0 w w1 : World} {b C1 C2 : Nat} {ao : Option Addr} {cap : Nat} {T : Tb} {xs : List Int} {i : Nat} {ahead : Int} (h : NoB T xs i ahead) (he : Ef b w w1) :
    BkP w0 w b C1 C2 ao cap T xs i ahead (.returned (.tuple #[.agg #[.int .i64 0, .slice none 0 0], .bool false])) ((w1.setCell ⟨w.heap.size, 0, none⟩ (.int .i64 0)).setCell ⟨w.heap.size, 1, none⟩ (.slice none 0 0)) :=
  ⟨.inr ⟨h, rfl⟩, (he.setNew (Nat.le_refl _) 0 _).setNew (Nat.le_refl _) 1 _⟩

set_option maxRecDepth 100000 in
set_option maxHeartbeats 3200000 in
theorem rd_block (w0 w : World) (b C1 C2 : Nat) (ao : Option Addr) (cap : Nat) (T : Tb) (xs : List Int) (i : Nat) (ahead : Int) (hT : T.right) (hx : AllBits xs) (ha : -2000 ≤ ahead ∧ ahead ≤ 2000) (h : RS w0 w b C1 C2 ao cap T xs i) :
    Calls Try.prog 55 #[.pointer (some ⟨b, 0, none⟩), .int .i64 ahead] w (BkP w0 w b C1 C2 ao cap T xs i ahead) := by
  have hA := (Below.refl w.heap.size w).alloc (Nat.le_refl _) (.cells #[.int .i64 0, .slice none 0 0] 71)
  have HA := hid hA
  have HT0 := hid (Two.new w (.int .i64 0) (.slice none 0 0) 71)
  have hb := h.2.2.2.1.lt
  have hw0 := h.2.1.size
  have HR := hid h
  have HTR := hid hT
  have HX := hid hx
  have HS := hid (rd_shift w0 _ b C1 C2 ao cap T xs i hT hx (h.below hA))
  have ha1 := ha.1
  have ha2 := ha.2
  clear hT h hA hx ha
  go_enter Try.func55, Try.ntmps55
  go_wp2_with fail
  refine HS.out.mono ?_
  generalize w.alloc (.cells #[.int .i64 0, .slice none 0 0] 71) = wa at *
  rintro e w1 ⟨⟨x, n, hs, rfl, hr⟩ | ⟨hs, rfl⟩, he⟩
  · have T1 := hid (HT0.out.ef he (by omega))
    have E1 := hid ((Ef.ofBelow (C := b) HA.out).trans he)
    have R1 := hid hr
    have H1 := hid hs
    have hxb := shiftR_bd HX.out hs
    have hx1 := hxb.1
    have hx2 := hxb.2
    have HC := hid (isCoef_any (ahead + x) w1)
    have hw1 : w.heap.size < w1.heap.size := T1.out.lt
    clear hs hr he HS HT0 HA hxb
    by_cases hc : inC (ahead + x) = true
    · have HIC := hid hc
      rw [hc] at HC
      clear hc
      go_wp2_with fail
      refine HC.out.mono ?_
      rintro e w1' ⟨rfl, rfl⟩
      go_wp2_with fail
      refine (newAc_any _).mono ?_
      rintro e w2 ⟨v1, rfl, ho1, hb1⟩
      obtain ⟨vo, vc, rfl⟩ := ho1.shape
      have HB2 := hid (Below.trans hb1 (((Below.refl w2.heap.size w2).alloc (Nat.le_refl _) (.cells #[.slice vo ([] : List Int).length vc, .int .i64 0] 123)).mono hb1.size))
      have A2 := hid (show RdA (w2.alloc (.cells #[.slice vo ([] : List Int).length vc, .int .i64 0] 123)) w2.heap.size w1.heap.size [] 0 from ⟨hb1.size, _, Two.new w2 _ _ 123, ho1.alloc _⟩)
      have E2 := hid (E1.out.thenBelow HB2.out (by omega))
      have T2 := hid (T1.out.below HB2.out hw1)
      have F2 := hid (R1.out.2.2.2.1.below HB2.out (by omega))
      have hn := R1.out.1.2.1
      simp only [List.length_nil] at A2 HB2 E2 T2 F2 ⊢
      clear ho1 hb1 HB2
      go_wp2_with fail
      generalize w2.alloc (.cells #[.slice vo 0 vc, .int .i64 0] 123) = w3 at *
      go_loopw [5] (fun okv wr => okv = .bool false ∧ ∃ (k : Nat) (L : List (Int × Int × List Int)) (p : Nat) (ac : List Int) (kd : Int), p ≤ xs.length ∧ Hid (rdK T xs n k = some (L, p)) ∧ Hid (readTo L k = some (ac, kd == 2)) ∧ Hid (RdA wr w2.heap.size w1.heap.size ac kd) ∧ Hid (Four wr b (.pointer (some ⟨C1, 0, none⟩)) (.pointer (some ⟨C2, 0, none⟩)) (.slice ao xs.length cap) (.int .i64 p) 95) ∧ Hid (Ef b w wr) ∧ Hid (Two wr w.heap.size (.int .i64 0) (.slice none 0 0) 71)) (fun _ wr => match wr.cell? ⟨w2.heap.size, 0, none⟩ with | some (.slice _ n _) => 63 - n | _ => 0)
      case atStart => exact ⟨rfl, 0, [], n, [], 0, hn, rfl, rfl, A2.out, F2.out, E2.out, T2.out⟩
      case round =>
        obtain ⟨rfl, k, L, p, ac, kd, hp, hrd, hto, hA, hF, hE, hT2⟩ := hrel
        have hal := readTo_len (by rw [rdK_len hrd.out]; exact Nat.le_refl _) hto.out
        have HW := hid (whole_any w2.heap.size w1.heap.size ac kd wr (by omega) hA.out)
        have hwr : w.heap.size < wr.heap.size := hT2.out.lt
        by_cases hfull : ac.length = 63
        · have hd : decide (ac.length = 63) = true := by simpa using hfull
          rw [hd] at HW
          have HGD := hid (show IsB T xs i ahead (ahead + x) ac p from ⟨x, n, H1.out, rfl, HIC.out, k, L, _, hrd.out, hto.out, hfull⟩)
          obtain ⟨_, v3, t3, o3⟩ := hA.out
          obtain ⟨yo, yc, rfl⟩ := o3.shape
          obtain ⟨m1, m2, m3, m4⟩ := t3.cells
          obtain ⟨q1, q2, q3, q4⟩ := hT2.out.cells
          have HO3 := hid ((o3.setTwo (i := 0) hT2.out (by decide) (.int .i64 (ahead + x))).setTwo (i := 1) (hT2.out.set0 (.int .i64 (ahead + x))) (by decide) (.slice yo ac.length yc))
          have c0 := (hT2.out.set0 (.int .i64 (ahead + x))).set1 (.slice yo ac.length yc)
          have HC0 := hid c0
          have EE := hid ((hE.out.setNew (Nat.le_refl _) 0 (.int .i64 (ahead + x))).setNew (Nat.le_refl _) 1 (.slice yo ac.length yc))
          have FF := hid ((hF.out.other (i := 0) (c := w.heap.size) (by omega) (.int .i64 (ahead + x))).other (i := 1) (c := w.heap.size) (by omega) (.slice yo ac.length yc))
          clear t3 o3 c0 hfull hd
          go_wp2_with fail
          refine HW.out.mono ?_
          rintro e w6 ⟨rfl, rfl⟩
          go_wp2_with fail
          obtain ⟨p1, p2, p3, p4⟩ := HC0.out.cells
          refine bodyPost_ret (v := .tuple #[.agg #[.int .i64 (ahead + x), .slice yo ac.length yc], .bool true]) (by simp [results, Try.results55, go_sem, q1, q2]) rfl ?_
          exact ⟨.inl ⟨_, ac, p, _, HGD.out, rfl, HO3.out.mono (by omega), HR.out.ef EE.out FF.out hp⟩, EE.out⟩
        · have hd : decide (ac.length = 63) = false := by simpa using hfull
          rw [hd] at HW
          have HNF := hid hfull
          have HST := hid (rd_step w0 wr b C1 C2 ao cap T xs p HTR.out (HR.out.ef hE.out hF.out hp))
          clear hd hfull
          go_wp2_with fail
          refine HW.out.mono ?_
          rintro e w6 ⟨rfl, rfl⟩
          go_wp2_with fail
          refine HST.out.mono ?_
          rintro e w4 ⟨⟨r, m, bits, a, c, p', hs1, rfl, hbl, hv4, hr4⟩ | ⟨hs1, r, m, rfl⟩, he4⟩
          · have HS1 := hid hs1
            have hA4 := hA.out.ef he4 (by omega)
            have hw4 : wr.heap.size ≤ w4.heap.size := he4.size
            have hbase : w1.heap.size ≤ w4.heap.size := Nat.le_trans (Nat.le_trans hA4.1 (Nat.le_of_lt (by obtain ⟨_, v, t, _⟩ := hA4; exact t.lt))) (Nat.le_refl _)
            have HB4 := hid ((Below.refl w4.heap.size w4).alloc (Nat.le_refl _) (.cells #[.int .i64 r, .int .i64 m, .slice a bits.length c] 73))
            have hv5 := (hv4.below (Nat.le_refl _) hr4.2.1).below (Nat.le_refl _) HB4.out
            have HTK := hid (take_any w2.heap.size w1.heap.size ac kd r m a c bits _ hal hbl (hA4.below HB4.out) hv5)
            have E4 := hid ((hE.out.trans he4).thenBelow HB4.out (by omega))
            have T4 := hid ((hT2.out.ef he4 (by omega)).below HB4.out (by omega))
            have F4 := hid (hr4.2.2.2.1.below HB4.out (by omega))
            have hp' := hr4.1.2.1
            have HTM := hid (fun ac' sk' => takeR_more (ac := ac) (sk := kd == 2) (s := (r, m, bits)) (ac' := ac') (sk' := sk') hal)
            have HNG := hid (fun ht => no_good_take (s := (r, m, bits)) hrd.out hto.out HNF.out hs1 ht)
            have HNX := hid (fun ac' sk' ht => read_next (s := (r, m, bits)) (ac' := ac') (sk' := sk') (rdK_len hrd.out) hto.out ht)
            have HRK := hid (rdK_next hrd.out hs1)
            obtain ⟨_, v3, t3, o3⟩ := hA.out
            obtain ⟨yo, yc, rfl⟩ := o3.shape
            have HM3 := hid t3.cells.1
            clear hs1 hv4 hr4 he4 hv5 hA4 t3 o3 HST HW
            generalize takeR (ac, kd == 2) (r, m, bits) = R at *
            go_wp2_with fail
            refine HTK.out.mono ?_
            generalize w4.alloc (.cells #[.int .i64 r, .int .i64 m, .slice a bits.length c] 73) = w5 at *
            rintro e w7 ⟨hb7, hm⟩
            have E7 := hid (E4.out.thenBelow hb7 (by omega))
            have T7 := hid (T4.out.below hb7 hw1)
            have F7 := hid (F4.out.below hb7 (by omega))
            cases R with
            | none =>
              obtain rfl : e = .returned (.bool false) := hm
              have HNB := hid (show NoB T xs i ahead from fun x' n' h' _ => by
                rw [H1.out] at h'
                cases h'
                exact HNG.out rfl)
              obtain ⟨q1, q2, q3, q4⟩ := T7.out.cells
              have HC0 := hid ((T7.out.set0 (.int .i64 0)).set1 (.slice none 0 0))
              clear hb7
              go_wp2_with fail
              obtain ⟨p1, p2, p3, p4⟩ := HC0.out.cells
              refine bodyPost_ret (v := .tuple #[.agg #[.int .i64 0, .slice none 0 0], .bool false]) (by simp [results, Try.results55, go_sem, q1, q2]) rfl ?_
              exact BkP.no HNB.out E7.out
            | some st' =>
              obtain ⟨ac', sk'⟩ := st'
              obtain ⟨he, kd', hr', hkd'⟩ := hm
              subst he
              have HA7 := hid hr'
              have hmore := HTM.out ac' sk' rfl
              have HTO := hid (show readTo (L ++ [(r, m, bits)]) (k + 1) = some (ac', kd' == 2) by rw [hkd']; exact HNX.out ac' sk' rfl)
              have hal' := readTo_len (by rw [rdK_len HRK.out]; exact Nat.le_refl _) HTO.out
              obtain ⟨_, v7, t7, o7⟩ := hr'
              obtain ⟨zo, zc, rfl⟩ := o7.shape
              have HM7 := hid t7.cells.1
              clear hb7 hkd' t7 o7
              go_wp2_with fail
              go_roundw
              case rel => exact ⟨rfl, k + 1, L ++ [(r, m, bits)], p', ac', kd', hp', HRK.out, HTO.out, HA7.out, F7.out, E7.out, T7.out⟩
              case measure => rw [HM7.out, HM3.out]; show 63 - ac'.length < 63 - ac.length; omega
          · have HNB := hid (show NoB T xs i ahead from fun x' n' h' _ => by
              rw [H1.out] at h'
              cases h'
              exact no_good_rd hrd.out hto.out HNF.out hs1)
            have hw4 : wr.heap.size ≤ w4.heap.size := he4.size
            have HB4 := hid ((Below.refl w4.heap.size w4).alloc (Nat.le_refl _) (.cells #[.int .i64 r, .int .i64 m, .slice none 0 0] 73))
            have T7 := hid ((hT2.out.ef he4 (by omega)).below HB4.out (by omega))
            have E7 := hid ((hE.out.trans he4).thenBelow HB4.out (by omega))
            obtain ⟨q1, q2, q3, q4⟩ := T7.out.cells
            have HC0 := hid ((T7.out.set0 (.int .i64 0)).set1 (.slice none 0 0))
            clear hs1 he4 HST HW
            go_wp2_with fail
            obtain ⟨p1, p2, p3, p4⟩ := HC0.out.cells
            refine bodyPost_ret (v := .tuple #[.agg #[.int .i64 0, .slice none 0 0], .bool false]) (by simp [results, Try.results55, go_sem, q1, q2]) rfl ?_
            exact BkP.no HNB.out E7.out
    · have HNB := hid (show NoB T xs i ahead from fun x' n' h' hi => by
        rw [H1.out] at h'
        cases h'
        exact absurd hi hc)
      have hc' : inC (ahead + x) = false := by simpa using hc
      rw [hc'] at HC
      obtain ⟨q1, q2, q3, q4⟩ := T1.out.cells
      have HC0 := hid ((T1.out.set0 (.int .i64 0)).set1 (.slice none 0 0))
      clear hc hc'
      go_wp2_with fail
      refine HC.out.mono ?_
      rintro e w1' ⟨rfl, rfl⟩
      go_wp2_with fail
      obtain ⟨p1, p2, p3, p4⟩ := HC0.out.cells
      refine bodyPost_ret (v := .tuple #[.agg #[.int .i64 0, .slice none 0 0], .bool false]) (by simp [results, Try.results55, go_sem, q1, q2]) rfl ?_
      exact BkP.no HNB.out E1.out
  · have T1 := hid (HT0.out.ef he (by omega))
    have E1 := hid ((Ef.ofBelow (C := b) HA.out).trans he)
    have HK := hid (show NoB T xs i ahead from fun x n h => by rw [hs] at h; cases h)
    obtain ⟨q1, q2, q3, q4⟩ := T1.out.cells
    have HC0 := hid ((T1.out.set0 (.int .i64 0)).set1 (.slice none 0 0))
    clear hs he HS HT0 HA
    go_wp2_with fail
    obtain ⟨p1, p2, p3, p4⟩ := HC0.out.cells
    refine bodyPost_ret (v := .tuple #[.agg #[.int .i64 0, .slice none 0 0], .bool false]) (by simp [results, Try.results55, go_sem, q1, q2]) rfl ?_
    exact BkP.no HK.out E1.out
end Go.Proofs.Ytcikmgdfelejpaa
