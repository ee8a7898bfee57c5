/- Plain: a log that grows record by record, is made safe now and then, and what a crash leaves of it. -/
import Derived.Test.YtphhgfgmlfdkiaaOfr
import Derived.Test.YtphhgfgmlfdkiaaAp
namespace Go.Proofs.Ytphhgfgmlfdkiaa
open Go.RowKit
set_option linter.unusedVariables false

theorem parts_pos (s : ByteArray) : 1 ≤ parts s := by unfold parts; omega
theorem parts_in (s : ByteArray) (k : Nat) (h : k < parts s) : k * 116 ≤ s.size := by unfold parts at h; omega
theorem parts_small (s : ByteArray) (h : s.size ≤ 240) : parts s ≤ 3 := by unfold parts; omega
theorem partsP_yes {q : Int} {s : ByteArray} (h : partOk q s = true) : partsP q s = partsTo q s (parts s) := by unfold partsP; rw [if_pos h]
theorem part_size (q : Int) (s : ByteArray) (k : Nat) (h : k < parts s) : 12 ≤ (partB q s k).size ∧ (partB q s k).size ≤ 128 := by
  rw [partB_size q s k (parts_in s k h)]
  omega

/-- Where the parts of a record stand, the record is read. -/
theorem atR_parts {E : List ByteArray} {p q : Nat} {s : ByteArray} (hok : partOk q s = true) (hl : p + parts s ≤ E.length) (hE : ∀ k, k < parts s → sAt E (p + k) = partB q s k) : atR E p q = some (s, parts s) := by
  have hp := parts_pos s
  have hb : parts s ≤ 600 := by
    have := partsP_len q s
    rw [partsP_yes hok, partsTo_len] at this
    exact this
  have h0 : sAt E p = partB q s 0 := by simpa using hE 0 (by omega)
  have hs0 := part_size q s 0 (by omega)
  have ht : told (sAt E p) = parts s := by
    have h8 : 8 + 4 ≤ (partB (q : Int) s 0).size := by omega
    have := told_yes _ h8
    rw [partB_w2 q s 0 (by omega) h8] at this
    rw [h0]
    omega
  have hj : ∀ k, k ≤ parts s → joinTo E p k = allTo s k := by
    intro k
    induction k with
    | zero => intro _; rw [joinTo, allTo_zero]
    | succ k ih =>
      intro hk
      rw [joinTo, ih (by omega), hE k (by omega), allTo_succ s k (parts_in s k (by omega))]
      unfold bodyOf
      rw [partB_rest]
  have hjs : joinTo E p (parts s) = s := by rw [hj _ (Nat.le_refl _), allTo_end]
  have := atR_yes (E := E) (p := p) (q := q) ⟨by omega, by rw [h0]; exact hs0.1, ?_⟩
  · rw [this, ht, hjs]
  · rw [ht]
    simp only [recB, Bool.and_eq_true, decide_eq_true_eq]
    refine ⟨hl, ?_, ?_⟩
    · rw [longTo_iff]
      intro j hjl
      rw [hE j hjl]
      exact (part_size q s j hjl).1
    · rw [hjs, partsP_yes hok]
      refine s_ext (by rw [partsTo_len]; simp; omega) (fun i hi => ?_)
      rw [partsTo_len] at hi
      rw [partsTo_at q s _ i hi]
      have e1 : sAt ((E.drop p).take (parts s)) i = sAt E (p + i) := standing_at E p (parts s) i hi
      rw [e1, hE i hi]

/-- What stands nowhere but as it was, or is nothing, has no other records. -/
theorem joinTo_at {E F : List ByteArray} (p : Nat) : ∀ n, (∀ j, j < n → sAt E (p + j) = sAt F (p + j)) → joinTo E p n = joinTo F p n
  | 0, _ => rfl
  | n + 1, h => by rw [joinTo, joinTo, joinTo_at p n (fun j hj => h j (by omega)), h n (by omega)]
theorem atR_mono {E F : List ByteArray} (hl : E.length = F.length) (h : ∀ i, i < E.length → sAt E i = sAt F i ∨ (sAt E i).size = 0) {p q : Nat} {s : ByteArray} {n : Nat} (ha : atR E p q = some (s, n)) : atR F p q = some (s, n) := by
  unfold atR at ha
  split at ha
  · rename_i hc
    cases ha
    obtain ⟨h1, h2, h3⟩ := hc
    simp only [recB, Bool.and_eq_true, decide_eq_true_eq] at h3
    obtain ⟨h4, h5, h6⟩ := h3
    have hp : sAt E p = sAt F p := by
      rcases h p h1 with e | e
      · exact e
      · omega
    have hall : ∀ j, j < told (sAt E p) → sAt E (p + j) = sAt F (p + j) := fun j hj => by
      rcases h (p + j) (by omega) with e | e
      · exact e
      · have := (longTo_iff E p _).1 h5 j hj
        omega
    have ej := joinTo_at p _ hall
    have et : (E.drop p).take (told (sAt E p)) = (F.drop p).take (told (sAt E p)) := by
      refine s_ext (by simp; omega) (fun i hi => ?_)
      have hik : i < told (sAt E p) := by simp at hi; omega
      have e1 : sAt ((E.drop p).take (told (sAt E p))) i = sAt E (p + i) := standing_at E p _ i hik
      have e2 : sAt ((F.drop p).take (told (sAt E p))) i = sAt F (p + i) := standing_at F p _ i hik
      rw [e1, e2, hall i hik]
    rw [ej, et] at h6
    rw [ej, hp]
    rw [hp] at h2 h4 h5 h6 hall
    refine atR_yes ⟨by omega, h2, ?_⟩
    simp only [recB, Bool.and_eq_true, decide_eq_true_eq]
    refine ⟨by omega, ?_, h6⟩
    rw [longTo_iff] at h5 ⊢
    intro j hj
    rw [← hall j hj]
    exact h5 j hj
  · cases ha
theorem run_mono {E F : List ByteArray} (hl : E.length = F.length) (h : ∀ i, i < E.length → sAt E i = sAt F i ∨ (sAt E i).size = 0) : ∀ k o p, Run E k o p → Run F k o p
  | 0, o, p, hr => hr
  | k + 1, o, p, ⟨o', p', s, n, hr, ha, e1, e2⟩ => ⟨o', p', s, n, run_mono hl h k o' p' hr, atR_mono hl h ha, e1, e2⟩

/-- A beginning of records is a beginning of them all. -/
theorem run_cut {E : List ByteArray} : ∀ (j k : Nat) (o : List ByteArray) (p : Nat), Run E (k + j) o p → ∃ p', Run E k (o.take k) p' ∧ p' ≤ p
  | 0, k, o, p, h => ⟨p, by
      have hl := h.len
      rw [List.take_of_length_le (by omega)]
      exact h, Nat.le_refl _⟩
  | j + 1, k, o, p, h => by
    obtain ⟨o', p', s, n, h', _, e1, e2⟩ := (show Run E (k + j + 1) o p from h)
    obtain ⟨p2, h2, hle⟩ := run_cut j k o' p' h'
    have hl := h'.len
    refine ⟨p2, ?_, by omega⟩
    rw [e1, List.take_append_of_le_length (by omega)]
    exact h2
theorem run_log {E : List ByteArray} {k : Nat} {o o2 : List ByteArray} {p p2 : Nat} (h : Run E k o p) (hl : Log E o2 p2) : k ≤ o2.length ∧ o = o2.take k ∧ p ≤ p2 := by
  by_cases hk : k ≤ o2.length
  · obtain ⟨j, hj⟩ : ∃ j, o2.length = k + j := ⟨o2.length - k, by omega⟩
    obtain ⟨p', h', hle⟩ := run_cut j k o2 p2 (by rw [← hj]; exact hl.1)
    obtain ⟨e1, e2⟩ := h.same h'
    exact ⟨hk, e1, by omega⟩
  · obtain ⟨j, hj⟩ : ∃ j, k = o2.length + 1 + j := ⟨k - (o2.length + 1), by omega⟩
    rw [hj] at h
    exact (hl.1.goes hl.2 j _ _ h).elim

/-- A log: its sectors, what is late, its texts, the sector behind them; how many are safe and the sector behind these. -/
structure Sy2 (S : List ByteArray) (L : List (Int × ByteArray)) (o : List ByteArray) (p sf ps m : Nat) : Prop where
  ok : DOk S L
  len : S.length = 30
  bd : p ≤ 3 * m ∧ L.length ≤ 3 * m ∧ o.length ≤ m
  run : Run (eff S L) o.length o p
  emp : ∀ i, p ≤ i → i < 30 → (sAt (eff S L) i).size = 0
  sfl : sf ≤ o.length ∧ ps ≤ p
  safe : Run (eff S L) sf (o.take sf) ps
  cr : ∀ kp i, i < 30 → sAt (crTo S L kp L.length) i = sAt (eff S L) i ∨ (ps ≤ i ∧ (sAt (crTo S L kp L.length) i).size = 0)

theorem Sy2.log {S : List ByteArray} {L : List (Int × ByteArray)} {o : List ByteArray} {p sf ps m : Nat} (h : Sy2 S L o p sf ps m) : Log (eff S L) o p := by
  refine ⟨h.run, atR_no (fun hc => ?_)⟩
  have h1 := hc.1
  rw [eff_len, h.len] at h1
  have := h.emp p (Nat.le_refl _) h1
  omega

theorem cr_app (S : List ByteArray) (L M : List (Int × ByteArray)) (kp : Nat → Bool) : ∀ k, k ≤ L.length → crTo S (L ++ M) kp k = crTo S L kp k
  | 0, _ => rfl
  | k + 1, h => by
    have e : lAt (L ++ M) k = lAt L k := by simp [lAt, List.getD, List.getElem?_append_left (show k < L.length by omega)]
    rw [crTo, crTo, e, cr_app S L M kp k (by omega)]
theorem lAt_right (L M : List (Int × ByteArray)) (k : Nat) : lAt (L ++ M) (L.length + k) = lAt M k := by
  unfold lAt List.getD
  rw [List.getElem?_append_right (by omega), show L.length + k - L.length = k by omega]

/-- What is read, and what a crash leaves, behind the first k parts. -/
theorem app_read (S : List ByteArray) (L : List (Int × ByteArray)) (p : Nat) (T : List ByteArray) (i : Nat) (hi : i < S.length) : ∀ k, k ≤ T.length →
    (p ≤ i ∧ i < p + k → rdF (mpTo (L ++ apW p T) (L.length + k)) S (i : Int) = sAt T (i - p)) ∧ (¬ (p ≤ i ∧ i < p + k) → rdF (mpTo (L ++ apW p T) (L.length + k)) S (i : Int) = sAt (eff S L) i)
  | 0, _ => ⟨fun h => by omega, fun _ => by rw [Nat.add_zero, mp_app L _ _ (Nat.le_refl _), eff_at S L i hi]⟩
  | k + 1, hk => by
    have ih := app_read S L p T i hi k (by omega)
    have e : lAt (L ++ apW p T) (L.length + k) = ((p : Int) + k, sAt T k) := by rw [lAt_right, apW_at _ _ _ (by omega)]
    rw [show L.length + (k + 1) = (L.length + k) + 1 by omega, mpTo, e]
    by_cases h : i = p + k
    · subst h
      refine ⟨fun _ => ?_, fun h => absurd ⟨by omega, by omega⟩ h⟩
      rw [show ((p + k : Nat) : Int) = (p : Int) + k by omega, rdF_upd_same, show p + k - p = k by omega]
    · rw [rdF_upd_ne _ _ _ _ _ (by omega)]
      exact ⟨fun hh => ih.1 (by omega), fun hh => ih.2 (by omega)⟩
theorem app_cr (S : List ByteArray) (L : List (Int × ByteArray)) (p : Nat) (T : List ByteArray) (kp : Nat → Bool) (i : Nat) (hi : i < S.length) (hp : p + T.length ≤ S.length) : ∀ k, k ≤ T.length →
    sAt (crTo S (L ++ apW p T) kp (L.length + k)) i = sAt (crTo S L kp L.length) i ∨ (p ≤ i ∧ i < p + k ∧ sAt (crTo S (L ++ apW p T) kp (L.length + k)) i = sAt T (i - p))
  | 0, _ => .inl (by rw [Nat.add_zero, cr_app S L _ kp _ (Nat.le_refl _)])
  | k + 1, hk => by
    have ih := app_cr S L p T kp i hi hp k (by omega)
    have e : lAt (L ++ apW p T) (L.length + k) = ((p : Int) + k, sAt T k) := by rw [lAt_right, apW_at _ _ _ (by omega)]
    rw [show L.length + (k + 1) = (L.length + k) + 1 by omega, crTo, e]
    have et : (((p : Int) + k, sAt T k) : Int × ByteArray).1.toNat = p + k := by show ((p : Int) + k).toNat = p + k; omega
    rw [et]
    split
    · by_cases h : p + k = i
      · subst h
        rw [sAt_set_same _ _ _ (by rw [crTo_len]; exact hi)]
        exact .inr ⟨by omega, by omega, by rw [show p + k - p = k by omega]⟩
      · rw [sAt_set_ne _ _ _ _ h]
        rcases ih with ih | ⟨h1, h2, h3⟩
        · exact .inl ih
        · exact .inr ⟨h1, by omega, h3⟩
    · rcases ih with ih | ⟨h1, h2, h3⟩
      · exact .inl ih
      · exact .inr ⟨h1, by omega, h3⟩

/-- A record more. -/
theorem Sy2.app {S : List ByteArray} {L : List (Int × ByteArray)} {o : List ByteArray} {p sf ps m : Nat} (h : Sy2 S L o p sf ps m) (hm : m ≤ 8) (s : ByteArray) (hs : s.size ≤ 240) :
    apB S L p (partsP ((o.length + 1 : Nat) : Int) s) = true ∧ apN S L p (partsP ((o.length + 1 : Nat) : Int) s) = ((p + parts s : Nat) : Int) ∧ Sy2 S (apL S L p (partsP ((o.length + 1 : Nat) : Int) s)) (o ++ [s]) (p + parts s) sf ps (m + 1) := by
  obtain ⟨hb1, hb2, hb3⟩ := h.bd
  have hok : partOk ((o.length + 1 : Nat) : Int) s = true := by simp [partOk]; omega
  have hp1 := parts_pos s
  have hp3 := parts_small s hs
  have hlen := h.len
  rw [partsP_yes hok]
  have hTl := partsTo_len ((o.length + 1 : Nat) : Int) s (parts s)
  have hTa : ∀ k, k < parts s → sAt (partsTo ((o.length + 1 : Nat) : Int) s (parts s)) k = partB ((o.length + 1 : Nat) : Int) s k := fun k hk => partsTo_at _ s _ k hk
  generalize partsTo ((o.length + 1 : Nat) : Int) s (parts s) = T at *
  have hB : apB S L p T = true := by
    unfold apB
    rw [okB_yes h.ok]
    simp
    omega
  refine ⟨hB, by rw [(ap_yes hB).2, hTl]; omega, ?_⟩
  rw [(ap_yes hB).1]
  have hWl : (L ++ apW p T).length = L.length + T.length := by rw [List.length_append, apW_len]
  have hE : ∀ i, i < 30 → (p ≤ i ∧ i < p + parts s → sAt (eff S (L ++ apW p T)) i = sAt T (i - p)) ∧ (¬ (p ≤ i ∧ i < p + parts s) → sAt (eff S (L ++ apW p T)) i = sAt (eff S L) i) := fun i hi => by
    rw [eff_at _ _ i (by omega), hWl, ← hTl]
    exact app_read S L p T i (by omega) T.length (Nat.le_refl _)
  have hlow : ∀ i, i < p → sAt (eff S L) i = sAt (eff S (L ++ apW p T)) i := fun i hi => ((hE i (by omega)).2 (by omega)).symm
  have hl1 := eff_len S L
  have hl2 := eff_len S (L ++ apW p T)
  have hrun : Run (eff S (L ++ apW p T)) o.length o p := run_same hlow (by omega) (by omega) _ _ _ (by omega) h.run (Nat.le_refl _)
  refine ⟨?_, h.len, ⟨by omega, by omega, by rw [List.length_append]; simp; omega⟩, ?_, ?_, ⟨by rw [List.length_append]; have := h.sfl; omega, by have := h.sfl; omega⟩, ?_, ?_⟩
  · refine ⟨⟨by omega, by omega⟩, h.ok.2.1, fun j hj => ?_⟩
    by_cases hjl : j < L.length
    · have e : lAt (L ++ apW p T) j = lAt L j := by simp [lAt, List.getD, List.getElem?_append_left hjl]
      rw [e]
      exact h.ok.2.2 j hjl
    · obtain ⟨k, rfl⟩ : ∃ k, j = L.length + k := ⟨j - L.length, by omega⟩
      rw [lAt_right, apW_at _ _ _ (by omega)]
      refine ⟨?_, ?_⟩
      · simp only [hasS, decide_eq_true_eq]
        omega
      · show (sAt T k).size ≤ 128
        rw [hTa k (by omega)]
        exact (part_size _ s k (by omega)).2
  · rw [List.length_append]
    refine ⟨o, p, s, parts s, hrun, ?_, rfl, rfl⟩
    refine atR_parts hok (by omega) (fun k hk => ?_)
    rw [(hE (p + k) (by omega)).1 ⟨by omega, by omega⟩, show p + k - p = k by omega]
    exact hTa k hk
  · intro i h1 h2
    rw [(hE i h2).2 (by omega)]
    exact h.emp i (by omega) h2
  · rw [List.take_append_of_le_length h.sfl.1]
    exact run_same hlow (by omega) (by omega) _ _ _ (by have := h.sfl; omega) h.safe h.sfl.2
  · intro kp i hi
    rw [hWl]
    rcases app_cr S L p T kp i (by omega) (by omega) T.length (Nat.le_refl _) with e | ⟨h1, h2, e⟩
    · rw [e]
      by_cases hin : p ≤ i ∧ i < p + parts s
      · right
        refine ⟨by have := h.sfl; omega, ?_⟩
        rcases h.cr kp i hi with e2 | e2
        · rw [e2]
          exact h.emp i hin.1 hi
        · exact e2.2
      · rw [(hE i hi).2 hin]
        exact h.cr kp i hi
    · left
      rw [e, (hE i hi).1 ⟨h1, by omega⟩]

theorem eff_nil (S : List ByteArray) : eff S [] = S := raL_none S
/-- Sectors with nothing late that are a log. -/
theorem Sy2.quiet {S : List ByteArray} {o : List ByteArray} {p m : Nat} (hok : DOk S []) (hl : S.length = 30) (hb : p ≤ 3 * m ∧ o.length ≤ m) (hr : Run S o.length o p) (he : ∀ i, p ≤ i → i < 30 → (sAt S i).size = 0) : Sy2 S [] o p o.length p m :=
  ⟨hok, hl, ⟨hb.1, by simp, hb.2⟩, by rw [eff_nil]; exact hr, by rw [eff_nil]; exact he, ⟨Nat.le_refl _, Nat.le_refl _⟩, by rw [eff_nil, List.take_length]; exact hr, fun kp i hi => by
    rw [eff_nil]
    exact .inl rfl⟩
/-- All is made safe. -/
theorem Sy2.sync {S : List ByteArray} {L : List (Int × ByteArray)} {o : List ByteArray} {p sf ps m : Nat} (h : Sy2 S L o p sf ps m) : Sy2 (bhS S L kpAll) (bhL S L) o p o.length p m := by
  have h0 := okB_yes h.ok
  rw [bhS_yes h0, bhL_yes h0]
  have hl := h.len
  have e : crTo S L kpAll L.length = eff S L := s_ext (by rw [crTo_len, eff_len]) (fun i hi => by
    rw [crTo_len] at hi
    rw [cr_read h.ok _ (Nat.le_refl _) i hi, eff_at S L i hi])
  rw [e]
  refine Sy2.quiet ⟨⟨by rw [eff_len]; omega, by simp⟩, fun j hj => eff_size h.ok j (by rw [eff_len] at hj; exact hj), fun j hj => by simp at hj⟩ (by rw [eff_len]; exact hl) ⟨h.bd.1, h.bd.2.2⟩ h.run h.emp
/-- What a crash leaves. -/
theorem Sy2.crash {S : List ByteArray} {L : List (Int × ByteArray)} {o : List ByteArray} {p sf ps m : Nat} (h : Sy2 S L o p sf ps m) (hm : m ≤ 8) (kp : Nat → Bool) {S3 : List ByteArray} {L3 : List (Int × ByteArray)} {o3 : List ByteArray} {p3 : Nat} (hop : OpR (bhS S L kp) (bhL S L) S3 L3 o3 p3) :
    L3 = [] ∧ sf ≤ o3.length ∧ o3.length ≤ o.length ∧ o3 = o.take o3.length ∧ Sy2 S3 [] o3 p3 o3.length p3 m := by
  have h0 := okB_yes h.ok
  rw [bhS_yes h0, bhL_yes h0] at hop
  have hl := h.len
  have hlen : (crTo S L kp L.length).length = 30 := by rw [crTo_len]; exact hl
  have hel : (eff S L).length = 30 := by rw [eff_len]; exact hl
  have hcr := h.cr kp
  generalize crTo S L kp L.length = X at *
  have hokX : DOk X [] := ⟨⟨by omega, by simp⟩, fun j hj => by
    rcases hcr j (by omega) with e | e
    · rw [e]; exact eff_size h.ok j (by omega)
    · omega, fun j hj => by simp at hj⟩
  obtain ⟨hlog, rfl, hl3, hem, hopa⟩ := open_again (okB_yes hokX) (by simp; omega) hop
  rw [eff_nil] at hlog
  have hlogE := h.log
  have hrE := run_mono (E := X) (F := eff S L) (by omega) (fun i hi => (hcr i (by omega)).imp id (fun e => e.2)) _ _ _ hlog.1
  obtain ⟨k1, k2, k3⟩ := run_log hrE hlogE
  have hsafe : Run X sf (o.take sf) ps := run_same (E := eff S L) (F := X) (b := ps) (fun i hi => by
    have hps := h.sfl
    have hb := h.bd
    rcases hcr i (by omega) with e | e
    · exact e.symm
    · omega) (by have hps := h.sfl; have hb := h.bd; omega) (by have hps := h.sfl; have hb := h.bd; omega) _ _ _ (by have hps := h.sfl; have hb := h.bd; omega) h.safe (Nat.le_refl _)
  obtain ⟨j1, _, _⟩ := run_log hsafe hlog
  have hb := h.bd
  have hlog3 : Log S3 o3 p3 ∧ DOk S3 [] := by
    rcases hopa with ⟨e, e2, _⟩ | ⟨e, o4, p4, hl4, hh⟩
    · exfalso
      have hq : okB S3 [] = true := okB_yes ⟨⟨by omega, by simp⟩, fun j hj => by
        rcases hop with ⟨g, _⟩ | ⟨_, o5, p5, hl5, ⟨_, g1, _⟩ | ⟨_, g1, _⟩⟩
        · rw [okB_yes hokX] at g; cases g
        · have hml := emTo_len (eff X []) p5 X.length
          have hD2 := dok_app (E := eff X []) (p := p5) hokX (by simp; omega)
          rw [g1, cr_read hD2 _ (Nat.le_refl _) j (by omega), ← eff_at _ _ j (by omega)]
          exact eff_size hD2 j (by omega)
        · rw [g1]; exact hokX.2.1 j (by omega), fun j hj => by simp at hj⟩
      rw [hq] at e; cases e
    · rw [eff_nil] at hl4
      rcases hh with ⟨_, _, _, e3, e4⟩ | ⟨e3, _⟩
      · subst e3 e4
        exact ⟨hl4, okB_iff e⟩
      · exfalso
        apply e3
        have := emTo_len (eff S3 []) p4 S3.length
        simp
        omega
  exact ⟨rfl, j1, k1, k2, Sy2.quiet hlog3.2 (by omega) ⟨by omega, by omega⟩ hlog3.1.1 (fun i h1 h2 => hem i h1 (by omega))⟩
end Go.Proofs.Ytphhgfgmlfdkiaa
