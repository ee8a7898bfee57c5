/- Texts joined: Of, Fre. No statement is proved here. -/
import Derived.Test.YtphhgfgmlfdkiaaOp
import Derived.Test.YtphhgfgmlfdkiaaLb
import Derived.Test.YtphhgfgmlfdkiaaLr

/- Plain: what a log is that was opened. -/
namespace Go.Proofs.Ytphhgfgmlfdkiaa
open Go.RowKit
set_option linter.unusedVariables false

theorem rdF_upd_same (f : Int → Option (Int × ByteArray)) (S : List ByteArray) (i : Int) (x : Int × ByteArray) : rdF (updF f i x) S i = x.2 := rdF_some (by simp [updF])
theorem rdF_upd_ne (f : Int → Option (Int × ByteArray)) (S : List ByteArray) (i j : Int) (x : Int × ByteArray) (h : i ≠ j) : rdF (updF f i x) S j = rdF f S j := by
  unfold rdF updF
  rw [if_neg h]
/-- The sectors behind all writes that are made safe are the sectors as they are read. -/
theorem cr_read {S : List ByteArray} {L : List (Int × ByteArray)} (h : DOk S L) : ∀ k, k ≤ L.length → ∀ i, i < S.length → sAt (crTo S L kpAll k) i = rdF (mpTo L k) S (i : Int)
  | 0, _, i, hi => by
    rw [crTo, rdF_none (by simp [mpTo]), Int.toNat_natCast]
  | k + 1, hk, i, hi => by
    have ih := cr_read h k (by omega) i hi
    obtain ⟨j, hj, hjn⟩ := hasS_nat2 (h.2.2 k (by omega)).1
    rw [crTo, if_pos (show kpAll k = true from rfl), mpTo, hj, Int.toNat_natCast]
    by_cases e : j = i
    · subst e
      rw [sAt_set_same _ _ _ (by rw [crTo_len]; exact hjn), rdF_upd_same]
    · rw [sAt_set_ne _ _ _ _ e, rdF_upd_ne _ _ _ _ _ (by omega)]
      exact ih
theorem mp_app (L M : List (Int × ByteArray)) : ∀ k, k ≤ L.length → mpTo (L ++ M) k = mpTo L k
  | 0, _ => rfl
  | k + 1, h => by
    have e : lAt (L ++ M) k = lAt L k := by simp [lAt, List.getD, List.getElem?_append_left (show k < L.length by omega)]
    rw [mpTo, mpTo, e, mp_app L M k (by omega)]
theorem mp_snoc (L : List (Int × ByteArray)) (x : Int × ByteArray) : mpTo (L ++ [x]) (L ++ [x]).length = updF (mpTo L L.length) x.1 x := by
  have e : lAt (L ++ [x]) L.length = x := by simp [lAt, List.getD]
  rw [List.length_append, List.length_singleton, mpTo, e, mp_app L [x] L.length (Nat.le_refl _)]
/-- What is read behind the writes that empty the first k sectors from p on. -/
theorem em_read (S : List ByteArray) (L : List (Int × ByteArray)) (E : List ByteArray) (p n : Nat) (hE : ∀ i, i < n → sAt E i = rdF (mpTo L L.length) S (i : Int)) : ∀ k, k ≤ n → ∀ i : Nat, i < n →
    (p ≤ i ∧ i < k → (rdF (mpTo (L ++ emTo E p k) (L ++ emTo E p k).length) S (i : Int)).size = 0) ∧ (¬ (p ≤ i ∧ i < k) → rdF (mpTo (L ++ emTo E p k) (L ++ emTo E p k).length) S (i : Int) = sAt E i)
  | 0, _, i, hi => by
    refine ⟨fun h => by omega, fun _ => ?_⟩
    rw [emTo, List.append_nil]
    exact (hE i hi).symm
  | k + 1, hk, i, hi => by
    obtain ⟨i1, i2⟩ := em_read S L E p n hE k (by omega) i hi
    by_cases hc : p ≤ k ∧ (sAt E k).size ≠ 0
    · rw [emTo_yes hc, ← List.append_assoc, mp_snoc]
      by_cases e : k = i
      · subst e
        rw [rdF_upd_same]
        exact ⟨fun _ => rfl, fun h => absurd ⟨hc.1, by omega⟩ h⟩
      · rw [rdF_upd_ne _ _ _ _ _ (by simp; omega)]
        exact ⟨fun h => i1 (by omega), fun h => i2 (by omega)⟩
    · rw [emTo_no hc]
      by_cases e : k = i
      · subst e
        refine ⟨fun h => ?_, fun h => i2 (by omega)⟩
        rw [i2 (by omega)]
        apply Classical.byContradiction
        intro h0
        exact hc ⟨h.1, h0⟩
      · exact ⟨fun h => i1 (by omega), fun h => i2 (by omega)⟩

/-- Two rows of sectors that are one ahead of p have one log there. -/
theorem joinTo_same {E F : List ByteArray} {b : Nat} (h : ∀ i, i < b → sAt E i = sAt F i) (p : Nat) : ∀ k, p + k ≤ b → joinTo E p k = joinTo F p k
  | 0, _ => rfl
  | k + 1, hk => by rw [joinTo, joinTo, joinTo_same h p k (by omega), h (p + k) (by omega)]
theorem longTo_same {E F : List ByteArray} {b : Nat} (h : ∀ i, i < b → sAt E i = sAt F i) (p k : Nat) (hk : p + k ≤ b) (hl : longTo E p k = true) : longTo F p k = true := by
  rw [longTo_iff] at *
  intro j hj
  rw [← h (p + j) (by omega)]
  exact hl j hj
theorem take_same {E F : List ByteArray} {b : Nat} (h : ∀ i, i < b → sAt E i = sAt F i) (hE : b ≤ E.length) (hF : b ≤ F.length) (p k : Nat) (hk : p + k ≤ b) : (E.drop p).take k = (F.drop p).take k := by
  refine s_ext (by simp; omega) (fun i hi => ?_)
  have hik : i < k := by simp at hi; omega
  have h1 := h (p + i) (by omega)
  have e1 : sAt ((E.drop p).take k) i = sAt E (p + i) := standing_at E p k i hik
  have e2 : sAt ((F.drop p).take k) i = sAt F (p + i) := standing_at F p k i hik
  rw [e1, e2, h1]
theorem atR_same {E F : List ByteArray} {b : Nat} (h : ∀ i, i < b → sAt E i = sAt F i) (hE : b ≤ E.length) (hF : b ≤ F.length) {p q : Nat} {s : ByteArray} {n : Nat} (hq : 1 ≤ q ∧ q ≤ 1000000000) (ha : atR E p q = some (s, n)) (hb : p + n ≤ b) : atR F p q = some (s, n) := by
  have hpos := atR_pos hq ha
  unfold atR at ha
  split at ha
  · rename_i hc
    cases ha
    obtain ⟨h1, h2, h3⟩ := hc
    simp only [recB, Bool.and_eq_true, decide_eq_true_eq] at h3
    obtain ⟨h4, h5, h6⟩ := h3
    have ep := h p (by omega)
    have ej := joinTo_same h p (told (sAt E p)) hb
    rw [ej] at h6 ⊢
    rw [take_same h hE hF p _ hb] at h6
    rw [ep] at h2 h5 h6 hb hpos ⊢
    refine atR_yes ⟨by omega, h2, ?_⟩
    simp only [recB, Bool.and_eq_true, decide_eq_true_eq]
    refine ⟨by omega, ?_, h6⟩
    have := longTo_same h p (told (sAt F p)) hb
    exact this h5
  · cases ha
theorem run_same {E F : List ByteArray} {b : Nat} (h : ∀ i, i < b → sAt E i = sAt F i) (hE : b ≤ E.length) (hF : b ≤ F.length) : ∀ k o p, k ≤ 1000000 → Run E k o p → p ≤ b → Run F k o p
  | 0, o, p, _, hr, _ => hr
  | k + 1, o, p, hk, ⟨o', p', s, n, hr, ha, e1, e2⟩, hp => ⟨o', p', s, n, run_same h hE hF k o' p' (by omega) hr (by omega), atR_same h hE hF (by omega) ha (by omega), e1, e2⟩
/-- With nothing from p on the log ends there. -/
theorem log_cut {E F : List ByteArray} {o : List ByteArray} {p : Nat} (hE : E.length ≤ 1500) (hl : E.length = F.length) (hlog : Log E o p) (h1 : ∀ i, i < p → sAt E i = sAt F i) (h2 : ∀ i, p ≤ i → i < F.length → (sAt F i).size = 0) : Log F o p := by
  have hb := hlog.bound hE
  refine ⟨run_same h1 hb.2 (by omega) _ o p (by omega) hlog.1 (Nat.le_refl _), atR_no (fun hc => ?_)⟩
  have := h2 p (Nat.le_refl _) hc.1
  omega
theorem emTo_none {E : List ByteArray} {p n : Nat} (h : ∀ i, p ≤ i → i < n → (sAt E i).size = 0) : ∀ k, k ≤ n → emTo E p k = []
  | 0, _ => rfl
  | k + 1, hk => by
    rw [emTo_no (fun hc => hc.2 (h k hc.1 (by omega)))]
    exact emTo_none h k (by omega)

/-- What was opened: as it was read, with nothing behind it; opened again it is the same. -/
theorem open_again {S : List ByteArray} {L : List (Int × ByteArray)} {S' : List ByteArray} {L' : List (Int × ByteArray)} {o : List ByteArray} {p : Nat} (h0 : okB S L = true) (hroom : S.length + L.length ≤ 3000) (h : OpR S L S' L' o p) :
    Log (eff S L) o p ∧ L' = [] ∧ S'.length = S.length ∧ (∀ i, p ≤ i → i < S'.length → (sAt S' i).size = 0) ∧ OpR S' [] S' [] o p := by
  rcases h with ⟨k0, _⟩ | ⟨_, o0, p0, hlog, hh⟩
  · rw [h0] at k0; cases k0
  · have hD := okB_iff h0
    have hml := emTo_len (eff S L) p0 S.length
    rcases hh with ⟨hr, e1, rfl, rfl, rfl⟩ | ⟨hr, _⟩
    · have hD2 := dok_app (E := eff S L) (p := p) hD hr
      have hEl := eff_len S L
      have hlen : S'.length = S.length := by rw [e1]; exact crTo_len _ _ _ _
      have hv : ∀ i, i < S.length → sAt S' i = rdF (mpTo (L ++ emTo (eff S L) p S.length) (L ++ emTo (eff S L) p S.length).length) S (i : Int) := fun i hi => by
        rw [e1]
        exact cr_read hD2 _ (Nat.le_refl _) i hi
      have hem := em_read S L (eff S L) p S.length (fun i hi => eff_at S L i hi) S.length (Nat.le_refl _)
      have hA : ∀ i, p ≤ i → i < S'.length → (sAt S' i).size = 0 := fun i h1 h2 => by
        rw [hv i (by omega)]
        exact (hem i (by omega)).1 ⟨h1, by omega⟩
      have hB : ∀ i, i < p → sAt (eff S L) i = sAt S' i := fun i hi => by
        have hb := hlog.bound (by rw [hEl]; exact hD.1.1)
        rw [hv i (by omega)]
        exact ((hem i (by omega)).2 (by omega)).symm
      have hlog2 : Log S' o p := log_cut (by rw [hEl]; exact hD.1.1) (by omega) hlog hB hA
      have heff : eff S' [] = S' := raL_none S'
      have hok2 : okB S' [] = true := okB_yes (by
        refine ⟨⟨by rw [hlen]; exact hD.1.1, by simp⟩, fun j hj => ?_, fun j hj => by simp at hj⟩
        by_cases hjp : p ≤ j
        · rw [hA j hjp hj]; omega
        · rw [← hB j (by omega)]
          exact eff_size hD j (by omega))
      refine ⟨hlog, rfl, hlen, hA, .inr ⟨hok2, o, p, by rw [heff]; exact hlog2, .inl ?_⟩⟩
      rw [heff, emTo_none hA S'.length (Nat.le_refl _)]
      exact ⟨by simp, rfl, rfl, rfl, rfl⟩
    · omega
end Go.Proofs.Ytphhgfgmlfdkiaa

/- LogFree of both sides. -/
namespace Go.Proofs.Ytphhgfgmlfdkiaa
open Go.RowKit
set_option linter.unusedVariables false

/-- How many sectors are free. -/
def FrR (S : List ByteArray) (L : List (Int × ByteArray)) (r : Int) : Prop := (okB S L = true ∧ ∃ o p, Log (eff S L) o p ∧ r = (S.length : Int) - (p : Int)) ∨ (okB S L = false ∧ r = -1)
theorem FrR.same {S : List ByteArray} {L : List (Int × ByteArray)} {r r' : Int} (h : FrR S L r) (k : FrR S L r') : r = r' := by
  rcases h with ⟨h0, o, p, h1, h2⟩ | ⟨h0, h1⟩
  · rcases k with ⟨k0, o', p', k1, k2⟩ | ⟨k0, k1⟩
    · obtain ⟨rfl, rfl⟩ := h1.same k1
      rw [h2, k2]
    · rw [h0] at k0; cases k0
  · rcases k with ⟨k0, _⟩ | ⟨k0, k1⟩
    · rw [h0] at k0; cases k0
    · rw [h1, k1]
theorem FrR.of {S : List ByteArray} {L : List (Int × ByteArray)} {o : List ByteArray} {p : Nat} (h0 : okB S L = true) (h : LogR S L o p) : FrR S L ((S.length : Int) - (p : Int)) ∧ p ≤ S.length ∧ S.length ≤ 1500 := by
  have hl := h.len
  have hd := (okB_iff h0).1.1
  rcases h with ⟨_, h⟩ | ⟨h1, _⟩
  · exact ⟨.inl ⟨h0, o, p, h, rfl⟩, hl.2, hd⟩
  · rw [h0] at h1; cases h1

set_option maxRecDepth 100000 in
set_option maxHeartbeats 3200000 in
theorem impl_logFree (v : Value) (S : List ByteArray) (L : List (Int × ByteArray)) (w : World) (hv : DP w v S L) :
    Calls Try.prog 16 #[v] w fun e w' => ∃ r, e = .returned (.int .i64 r) ∧ FrR S L r ∧ Below w.heap.size w w' := by
  obtain ⟨a, c, a', c', e0, r1, r2, p1, p2⟩ := id hv
  subst e0
  have B := hid ((Below.refl w.heap.size w).alloc (Nat.le_refl _) (.cells #[.slice a S.length c, .slice a' L.length c'] 27))
  have N := hid (Blk.new w [.slice a S.length c, .slice a' L.length c'] 27)
  have V := hid (hv.below (Nat.le_refl _) B.out)
  clear r1 r2 p1 p2 hv
  have q0 := N.out.cell (i := 0) rfl
  have q1 := N.out.cell (i := 1) rfl
  have HOK := hid (impl_ok _ S L _ V.out.dv)
  go_enter Try.func16, Try.ntmps16
  go_wp2_with fail
  refine HOK.out.mono ?_
  clear HOK q0 q1
  generalize w.alloc _ = w0 at *
  rintro e w1 ⟨rfl, hb⟩
  replace B := hid (B.out.trans (hb.mono B.out.size))
  replace N := hid (N.out.below hb N.out.lt)
  replace V := hid (V.out.below (Nat.le_refl _) hb)
  clear hb
  have q0 := N.out.cell (i := 0) rfl
  have q1 := N.out.cell (i := 1) rfl
  cases hO1 : okB S L with
  | false =>
    go_wp2_with fail
    go_ret
    exact ⟨_, rfl, .inr ⟨hO1, rfl⟩, B.out⟩
  | true =>
    have HLR := hid (impl_logRead _ S L _ V.out)
    go_wp2_with fail
    refine HLR.out.mono ?_
    rintro e w2 ⟨u, o, p, rfl, hou, hlr, hb⟩
    replace B := hid (B.out.trans (hb.mono B.out.size))
    replace N := hid (N.out.below hb N.out.lt)
    obtain ⟨f1, f2, f3⟩ := FrR.of hO1 hlr
    have HF := hid f1
    clear hb q0 q1 hou hlr f1 HLR
    have q0 := N.out.cell (i := 0) rfl
    have q1 := N.out.cell (i := 1) rfl
    have f2' : (p : Int) ≤ (S.length : Int) := by omega
    go_wp2_with fail
    go_ret
    exact ⟨_, rfl, HF.out, B.out⟩

end Go.Proofs.Ytphhgfgmlfdkiaa
