/- Plain facts: what ModelPut and ModelGet answer, number by number. No machine in it. -/
import Derived.Test.YtimafabbepgifaaFa
import Derived.Test.YtimafabbepgifaaGp
import Derived.Test.YtimafabbepgifaaIj
import Derived.Test.YtimafabbepgifaaIn
namespace Go.Proofs.Ytimafabbepgifaa
open Go.RowKit
set_option linter.unusedVariables false


/-- The chance that decision k of a plan is told with. -/
def chK (B : Nat) (P : List Int) (st : PS) (k : Nat) : Int := (putTo B P st k).ch.getD (B + (nextS (P.take k)).1.toNat) 0
def psOf (B : Nat) (P : List Int) (st : PS) : List Int := (List.range P.length).map (chK B P st)
/-- The base of number j. -/
def bsJ (j : Nat) : Nat := j % 2 * 24
/-- The coder and the model behind the first j numbers. -/
def stN (xs : List Int) : Nat → PS
  | 0 => ⟨0, 4294967295, [], List.replicate 48 2048⟩
  | j + 1 => putTo (bsJ j) (planP (xs.getD j 0)) (stN xs j) (planP (xs.getD j 0)).length
/-- All decisions of the first j numbers, and their chances. -/
def btN (xs : List Int) : Nat → List Int
  | 0 => []
  | j + 1 => btN xs j ++ planP (xs.getD j 0)
def csN (xs : List Int) : Nat → List Int
  | 0 => []
  | j + 1 => csN xs j ++ psOf (bsJ j) (planP (xs.getD j 0)) (stN xs j)
theorem psOf_len (B : Nat) (P : List Int) (st : PS) : (psOf B P st).length = P.length := by simp [psOf]
theorem csN_len (xs : List Int) : ∀ j, (csN xs j).length = (btN xs j).length
  | 0 => rfl
  | j + 1 => by rw [csN, btN, List.length_append, List.length_append, csN_len xs j, psOf_len]
theorem btN_len (xs : List Int) : ∀ j, (btN xs j).length ≤ 23 * j
  | 0 => by simp [btN]
  | j + 1 => by
    have := btN_len xs j
    have := planP_len23 (xs.getD j 0)
    rw [btN, List.length_append]
    omega
theorem btN_pre (xs : List Int) (j : Nat) : ∀ d, ∃ r, btN xs (j + d) = btN xs j ++ r
  | 0 => ⟨[], by simp⟩
  | d + 1 => by
    obtain ⟨r, hr⟩ := btN_pre xs j d
    exact ⟨r ++ planP (xs.getD (j + d) 0), by rw [show j + (d + 1) = j + d + 1 by omega, btN, hr, List.append_assoc]⟩
theorem csN_pre (xs : List Int) (j : Nat) : ∀ d, ∃ r, csN xs (j + d) = csN xs j ++ r
  | 0 => ⟨[], by simp⟩
  | d + 1 => by
    obtain ⟨r, hr⟩ := csN_pre xs j d
    exact ⟨r ++ psOf (bsJ (j + d)) (planP (xs.getD (j + d) 0)) (stN xs (j + d)), by rw [show j + (d + 1) = j + d + 1 by omega, csN, hr, List.append_assoc]⟩
/-- Decision k of number j stands where it should. -/
theorem btN_at (xs : List Int) (n j k : Nat) (hj : j < n) (hk : k < (planP (xs.getD j 0)).length) : (btN xs n).getD ((btN xs j).length + k) 0 = (planP (xs.getD j 0)).getD k 0 := by
  obtain ⟨r, hr⟩ := btN_pre xs (j + 1) (n - (j + 1))
  rw [show j + 1 + (n - (j + 1)) = n by omega] at hr
  rw [hr, btN, List.append_assoc]
  exact getD_app_at _ _ _ k hk
theorem csN_at (xs : List Int) (n j k : Nat) (hj : j < n) (hk : k < (planP (xs.getD j 0)).length) : (csN xs n).getD ((btN xs j).length + k) 0 = chK (bsJ j) (planP (xs.getD j 0)) (stN xs j) k := by
  obtain ⟨r, hr⟩ := csN_pre xs (j + 1) (n - (j + 1))
  rw [show j + 1 + (n - (j + 1)) = n by omega] at hr
  rw [hr, csN, List.append_assoc, ← csN_len]
  rw [getD_app_at _ _ _ k (by rw [psOf_len]; exact hk)]
  rw [List.getD_eq_getElem?_getD, psOf, List.getElem?_map, List.getElem?_range hk]
  rfl
theorem bsJ_le (j : Nat) : bsJ j + 24 ≤ 48 := by unfold bsJ; omega
theorem stN_ok (xs : List Int) : ∀ j, PsOk 48 (4 * (btN xs j).length) (stN xs j)
  | 0 => ⟨⟨by show (0 : Int) ≤ 0; decide, by show (0 : Int) < 4294967296; decide⟩, ⟨by show (0 : Int) ≤ 4294967295; decide, by show (4294967295 : Int) < 4294967296; decide⟩, by simp [stN], fun x hx => by rw [List.eq_of_mem_replicate hx]; decide, by simp [stN]⟩
  | j + 1 => by
    have h := putTo_ok (x := xs.getD j 0) (stN_ok xs j) (bsJ_le j) _ (Nat.le_refl _)
    rw [btN, List.length_append, Nat.mul_add]
    exact h
theorem chK_ch (xs : List Int) (j k : Nat) (hk : k < (planP (xs.getD j 0)).length) : isCh (chK (bsJ j) (planP (xs.getD j 0)) (stN xs j) k) = true := by
  obtain ⟨s, _, _, _, e, h0, h1⟩ := walk_part (xs.getD j 0) k hk
  have h := putTo_ok (x := xs.getD j 0) (stN_ok xs j) (bsJ_le j) k (by omega)
  exact h.at (by rw [← e]; have := bsJ_le j; omega)
theorem csN_ch (xs : List Int) : ∀ j, chsOk (csN xs j)
  | 0 => fun x hx => by simp [csN] at hx
  | j + 1 => fun x hx => by
    rw [csN] at hx
    rcases List.mem_append.1 hx with h | h
    · exact csN_ch xs j x h
    · obtain ⟨k, hk, rfl⟩ := List.mem_map.1 h
      exact chK_ch xs j k (List.mem_range.1 hk)
theorem btN_bit (xs : List Int) : ∀ j, bitsOk (btN xs j)
  | 0 => fun x hx => by simp [btN] at hx
  | j + 1 => fun x hx => by
    rw [btN] at hx
    rcases List.mem_append.1 hx with h | h
    · exact btN_bit xs j x h
    · have := plan_bits _ x h
      simpa [isBi] using this
theorem rowyN (xs : List Int) (n : Nat) (hn : n ≤ 60) : Rowy (btN xs n) (csN xs n) (btN xs n).length :=
  ⟨rfl, csN_len xs n, by have := btN_len xs n; omega, btN_bit xs n, csN_ch xs n⟩
/-- The coder goes the way of a row of bits. -/
theorem cAt_num (xs : List Int) (n j : Nat) (hn : n ≤ 60) (hj : j < n) (h0 : cAt (btN xs n) (csN xs n) (btN xs j).length = some ((stN xs j).o, (stN xs j).lo, (stN xs j).hi)) : ∀ k, k ≤ (planP (xs.getD j 0)).length → cAt (btN xs n) (csN xs n) ((btN xs j).length + k) = some ((putTo (bsJ j) (planP (xs.getD j 0)) (stN xs j) k).o, (putTo (bsJ j) (planP (xs.getD j 0)) (stN xs j) k).lo, (putTo (bsJ j) (planP (xs.getD j 0)) (stN xs j) k).hi)
  | 0, _ => h0
  | k + 1, hk => by
    have ih := cAt_num xs n j hn hj h0 k (by omega)
    have hl := btN_len xs n
    obtain ⟨r, hr⟩ := btN_pre xs (j + 1) (n - (j + 1))
    rw [show j + 1 + (n - (j + 1)) = n by omega, btN] at hr
    have hlt : (btN xs j).length + k < (btN xs n).length := by
      rw [hr, List.length_append, List.length_append]
      omega
    have hck := cAt_ck (csN_ch xs n) _ (by rw [csN_len]; omega) _ _ _ ih
    have hok := putTo_ok (x := xs.getD j 0) (stN_ok xs j) (bsJ_le j) k (by omega)
    have hol := hok.ol
    have := cAt_some ih (by omega)
    rw [btN_at xs n j k hj (by omega), csN_at xs n j k hj (by omega)] at this
    rw [show (btN xs j).length + (k + 1) = (btN xs j).length + k + 1 by omega, this]
    have hpp : ∀ b p, pPut (putTo (bsJ j) (planP (xs.getD j 0)) (stN xs j) k).lo (putTo (bsJ j) (planP (xs.getD j 0)) (stN xs j) k).hi b p = cPut (putTo (bsJ j) (planP (xs.getD j 0)) (stN xs j) k).lo (putTo (bsJ j) (planP (xs.getD j 0)) (stN xs j) k).hi b p := fun b p => by
      unfold pPut
      rw [if_pos (Int.le_of_lt hck.2.2.1)]
    show some (_, _) = some (_, _, _)
    rw [putTo]
    unfold stepP
    rw [hpp]
    rfl
theorem cAt_all (xs : List Int) (n : Nat) (hn : n ≤ 60) : ∀ j, j ≤ n → cAt (btN xs n) (csN xs n) (btN xs j).length = some ((stN xs j).o, (stN xs j).lo, (stN xs j).hi)
  | 0, _ => rfl
  | j + 1, hj => by
    have := cAt_num xs n j hn (by omega) (cAt_all xs n hn j (by omega)) _ (Nat.le_refl _)
    rw [btN, List.length_append]
    exact this
/-- The bytes that all numbers are told by. -/
def txN (xs : List Int) (n : Nat) : List Int := (stN xs n).o ++ wordBytes (stN xs n).lo
/-- The reader at a state of the coder. -/
def rdP (L : List Int) (st : PS) : GS := ⟨st.lo, st.hi, wd L st.o.length, ((st.o.length + 4 : Nat) : Int), st.ch⟩
theorem txN_bys (xs : List Int) (n : Nat) (hn : n ≤ 60) : Bys (txN xs n) := by
  have hck := cAt_ck (csN_ch xs n) _ (by rw [csN_len]; exact Nat.le_refl _) _ _ _ (cAt_all xs n hn n (Nat.le_refl _))
  intro x hx
  rcases List.mem_append.1 hx with h | h
  · exact hck.2.2.2.2 x h
  · have hx := hck.1
    unfold W32 at hx
    simp only [wordBytes, List.mem_cons, List.not_mem_nil, or_false] at h
    omega
/-- One decision is read. -/
theorem gN_back (xs : List Int) (n j k : Nat) (hn : n ≤ 60) (hj : j < n) (hk : k < (planP (xs.getD j 0)).length) (s : Wk) (hs : wkSlot s = (nextS ((planP (xs.getD j 0)).take k)).1) :
    (gG (bsJ j) (strOfNums (txN xs n)) (rdP (txN xs n) (putTo (bsJ j) (planP (xs.getD j 0)) (stN xs j) k)) s).1 = (planP (xs.getD j 0)).getD k 0 ∧ gN (bsJ j) (strOfNums (txN xs n)) (rdP (txN xs n) (putTo (bsJ j) (planP (xs.getD j 0)) (stN xs j) k)) s = rdP (txN xs n) (putTo (bsJ j) (planP (xs.getD j 0)) (stN xs j) (k + 1)) := by
  have hL := txN_bys xs n hn
  have hc := cAt_num xs n j hn hj (cAt_all xs n hn j (by omega)) k (by omega)
  have hl := btN_len xs n
  obtain ⟨r, hr⟩ := btN_pre xs (j + 1) (n - (j + 1))
  rw [show j + 1 + (n - (j + 1)) = n by omega, btN] at hr
  have hlt : (btN xs j).length + k < (btN xs n).length := by
    rw [hr, List.length_append, List.length_append]
    omega
  have hbt := between (rowyN xs n hn) (cAt_all xs n hn n (Nat.le_refl _)) hL ((btN xs n).length - ((btN xs j).length + k)) ((btN xs j).length + k) (by omega) _ _ _ hc
  have hok := putTo_ok (x := xs.getD j 0) (stN_ok xs j) (bsJ_le j) k (by omega)
  have hol := hok.ol
  have hck := cAt_ck (csN_ch xs n) _ (by rw [csN_len]; omega) _ _ _ hc
  have hbit := hbt.2.2 hlt
  rw [btN_at xs n j k hj hk, csN_at xs n j k hj hk] at hbit
  have hP : gP (bsJ j) (rdP (txN xs n) (putTo (bsJ j) (planP (xs.getD j 0)) (stN xs j) k)) s = chK (bsJ j) (planP (xs.getD j 0)) (stN xs j) k := by
    unfold gP chK
    rw [hs]
    rfl
  have hpp : ∀ b p, pPut (putTo (bsJ j) (planP (xs.getD j 0)) (stN xs j) k).lo (putTo (bsJ j) (planP (xs.getD j 0)) (stN xs j) k).hi b p = cPut (putTo (bsJ j) (planP (xs.getD j 0)) (stN xs j) k).lo (putTo (bsJ j) (planP (xs.getD j 0)) (stN xs j) k).hi b p := fun b p => by
    unfold pPut
    rw [if_pos (Int.le_of_lt hck.2.2.1)]
  have hnx : putTo (bsJ j) (planP (xs.getD j 0)) (stN xs j) (k + 1) = stepP (bsJ j) (putTo (bsJ j) (planP (xs.getD j 0)) (stN xs j) k) (wkSlot s) ((planP (xs.getD j 0)).getD k 0) := by rw [putTo, hs]
  have hst : ((putTo (bsJ j) (planP (xs.getD j 0)) (stN xs j) k).ch.getD (bsJ j + (wkSlot s).toNat) 0) = chK (bsJ j) (planP (xs.getD j 0)) (stN xs j) k := by
    unfold chK
    rw [hs]
  generalize hPS : putTo (bsJ j) (planP (xs.getD j 0)) (stN xs j) k = PS0 at *
  generalize chK (bsJ j) (planP (xs.getD j 0)) (stN xs j) k = Y at *
  generalize (planP (xs.getD j 0)).getD k 0 = X at *
  have hRP : rP PS0.lo PS0.hi (wd (txN xs n) PS0.o.length) Y = cPut PS0.lo PS0.hi X Y := by
    unfold rP
    rw [show rBit PS0.lo PS0.hi (wd (txN xs n) PS0.o.length) Y = X from hbit]
  have hG : gG (bsJ j) (strOfNums (txN xs n)) (rdP (txN xs n) PS0) s = (X, (cPut PS0.lo PS0.hi X Y).2.1, (cPut PS0.lo PS0.hi X Y).2.2, wd (txN xs n) (PS0.o.length + (cPut PS0.lo PS0.hi X Y).1.length), ((PS0.o.length + 4 : Nat) : Int) + ((cPut PS0.lo PS0.hi X Y).1.length : Nat)) := by
    unfold gG
    rw [hP]
    show gR PS0.lo PS0.hi (wd (txN xs n) PS0.o.length) (strOfNums (txN xs n)) ((PS0.o.length + 4 : Nat) : Int) Y = _
    unfold gR
    rw [if_pos ⟨Int.le_of_lt hck.2.2.1, by omega, by omega⟩, hRP, rC_wd hL]
    rw [show rBit PS0.lo PS0.hi (wd (txN xs n) PS0.o.length) Y = X from hbit]
  refine ⟨by rw [hG], ?_⟩
  unfold gN
  rw [hG, hP, hnx]
  unfold rdP stepP
  simp only
  rw [hst, hpp, List.length_append]
  congr 1
  omega

/-- A number is read. -/
theorem get_back (xs : List Int) (n j : Nat) (hn : n ≤ 60) (hj : j < n) (hx : 0 ≤ sz (xs.getD j 0)) :
    ∃ s, getF (bsJ j) (strOfNums (txN xs n)) 31 (rdP (txN xs n) (stN xs j)) wk0 = some (rdP (txN xs n) (stN xs (j + 1)), s) ∧ wkNum s = xs.getD j 0 := by
  obtain ⟨se, he, _, he4, heN⟩ := walk_whole (xs.getD j 0) hx
  refine ⟨se, ?_, heN⟩
  have main : ∀ d k f s, k + d = (planP (xs.getD j 0)).length → d ≤ f → wkOver wk0 ((planP (xs.getD j 0)).take k) = some s → getF (bsJ j) (strOfNums (txN xs n)) f (rdP (txN xs n) (putTo (bsJ j) (planP (xs.getD j 0)) (stN xs j) k)) s = some (rdP (txN xs n) (putTo (bsJ j) (planP (xs.getD j 0)) (stN xs j) (planP (xs.getD j 0)).length), se) := by
    intro d
    induction d with
    | zero =>
      intro k f s hk hf hs
      obtain rfl : k = (planP (xs.getD j 0)).length := by omega
      rw [List.take_length, he] at hs
      cases hs
      exact getF_told _ _ _ _ he4 f
    | succ d ih =>
      intro k f s hk hf hs
      obtain ⟨s', es, hok, h4, hsl, _, _⟩ := walk_part (xs.getD j 0) k (by omega)
      rw [hs] at es
      cases es
      obtain ⟨f', rfl⟩ : ∃ f', f = f' + 1 := ⟨f - 1, by omega⟩
      have hb := gN_back xs n j k hn hj (by omega) s hsl
      have hbit : isBi ((planP (xs.getD j 0)).getD k 0) = true := by
        rw [List.getD_eq_getElem?_getD, List.getElem?_eq_getElem (by omega)]
        exact plan_bits _ _ (List.getElem_mem _)
      have hov := over_take (s := wk0) (l := planP (xs.getD j 0)) (k := k) (by omega) hs
      rw [if_pos ⟨hbit, h4⟩] at hov
      have hb2 : 0 ≤ (planP (xs.getD j 0)).getD k 0 := by
        have := (isBi_iff _).1 hbit
        omega
      rw [getF, if_neg h4, hb.1, if_neg (by omega), hb.2]
      exact ih (k + 1) f' _ (by omega) (by omega) hov
  have := main (planP (xs.getD j 0)).length 0 31 wk0 (by omega) (by have := planP_len23 (xs.getD j 0); omega) (by simp [wkOver])
  rw [stN]
  exact this


theorem putTo_o (B : Nat) (P : List Int) (lo hi : Int) (o ch : List Int) : ∀ k, putTo B P ⟨lo, hi, o, ch⟩ k = ⟨(putTo B P ⟨lo, hi, [], ch⟩ k).lo, (putTo B P ⟨lo, hi, [], ch⟩ k).hi, o ++ (putTo B P ⟨lo, hi, [], ch⟩ k).o, (putTo B P ⟨lo, hi, [], ch⟩ k).ch⟩
  | 0 => by simp [putTo]
  | k + 1 => by
    rw [putTo, putTo_o B P lo hi o ch k, putTo]
    unfold stepP
    simp only [List.append_assoc]
theorem sz_ok {x : Int} (h : -2047 ≤ x ∧ x ≤ 2047) : 0 ≤ sz x := by
  rw [sz_in h]
  omega
theorem stN_sz (xs : List Int) (j : Nat) (hj : j ≤ 60) : (stN xs j).o.length ≤ 5520 := by
  have h1 := (stN_ok xs j).ol
  have h2 := btN_len xs j
  omega
theorem stN_okM (xs : List Int) (j : Nat) : okM (stN xs j).ch = true := by
  have h := stN_ok xs j
  exact decide_eq_true ⟨by rw [h.ln]; decide, h.ch⟩
/-- A number is told. -/
theorem put_fact (xs : List Int) (j : Nat) (hj : j < 60) (hx : -2047 ≤ xs.getD j 0 ∧ xs.getD j 0 ≤ 2047) :
    okMP (strOfNums (stN xs j).o) (stN xs j).ch (bsJ j) (xs.getD j 0) = true ∧ mpV (stN xs j).lo (stN xs j).hi (strOfNums (stN xs j).o) (stN xs j).ch (bsJ j) (xs.getD j 0) = cV (stN xs (j + 1)).lo (stN xs (j + 1)).hi (strOfNums (stN xs (j + 1)).o) ∧ (mpS (stN xs j).lo (stN xs j).hi (strOfNums (stN xs j).o) (stN xs j).ch (bsJ j) (xs.getD j 0)).ch = (stN xs (j + 1)).ch := by
  have hln := (stN_ok xs j).ln
  have hb := bsJ_le j
  have hsz := stN_sz xs j (by omega)
  have hok : okMP (strOfNums (stN xs j).o) (stN xs j).ch (bsJ j) (xs.getD j 0) = true :=
    decide_eq_true ⟨stN_okM xs j, ⟨by omega, by rw [hln]; omega⟩, sz_ok hx, by rw [strOf_size]; omega⟩
  have hst : stN xs (j + 1) = ⟨(mpS (stN xs j).lo (stN xs j).hi (strOfNums (stN xs j).o) (stN xs j).ch (bsJ j) (xs.getD j 0)).lo, (mpS (stN xs j).lo (stN xs j).hi (strOfNums (stN xs j).o) (stN xs j).ch (bsJ j) (xs.getD j 0)).hi, (stN xs j).o ++ (mpS (stN xs j).lo (stN xs j).hi (strOfNums (stN xs j).o) (stN xs j).ch (bsJ j) (xs.getD j 0)).o, (mpS (stN xs j).lo (stN xs j).hi (strOfNums (stN xs j).o) (stN xs j).ch (bsJ j) (xs.getD j 0)).ch⟩ := by
    unfold mpS
    rw [hok, if_pos rfl, Int.toNat_natCast, stN]
    exact putTo_o (bsJ j) (planP (xs.getD j 0)) (stN xs j).lo (stN xs j).hi (stN xs j).o (stN xs j).ch _
  refine ⟨hok, ?_, by rw [hst]⟩
  unfold mpV
  rw [hst]
  simp only
  rw [strOf_app]
/-- A number is read. -/
theorem get_fact (xs : List Int) (n j : Nat) (hn : n ≤ 60) (hj : j < n) (hx : -2047 ≤ xs.getD j 0 ∧ xs.getD j 0 ≤ 2047) :
    ∃ s, mgR (stN xs j).lo (stN xs j).hi (wd (txN xs n) (stN xs j).o.length) (strOfNums (txN xs n)) (((stN xs j).o.length + 4 : Nat) : Int) (stN xs j).ch (bsJ j) = some (rdP (txN xs n) (stN xs (j + 1)), s) ∧ wkNum s = xs.getD j 0 := by
  obtain ⟨s, h1, h2⟩ := get_back xs n j hn hj (sz_ok hx)
  refine ⟨s, ?_, h2⟩
  have hln := (stN_ok xs j).ln
  have hb := bsJ_le j
  unfold mgR
  rw [if_pos (show okMG (stN xs j).ch (bsJ j) = true from decide_eq_true ⟨stN_okM xs j, by omega, by rw [hln]; omega⟩), Int.toNat_natCast]
  exact h1
theorem code0_tx (xs : List Int) (n : Nat) (hn : n ≤ 60) : code0 (strOfNums (txN xs n)) = wd (txN xs n) 0 := by
  have hL := txN_bys xs n hn
  unfold code0 wd
  rw [show (0 : Int) = ((0 : Nat) : Int) from rfl, show (1 : Int) = ((1 : Nat) : Int) from rfl, show (2 : Int) = ((2 : Nat) : Int) from rfl, show (3 : Int) = ((3 : Nat) : Int) from rfl, strOf_at hL, strOf_at hL, strOf_at hL, strOf_at hL]
  rfl
theorem wd_word {L : List Int} (h : Bys L) (i : Nat) : W32 (wd L i) := by
  have h0 := h.at i
  have h1 := h.at (i + 1)
  have h2 := h.at (i + 2)
  have h3 := h.at (i + 3)
  unfold W32 wd
  omega
end Go.Proofs.Ytimafabbepgifaa
