/- The contract of the program's writer of bits: put. -/
import Derived.Test.YtimafabbepgifaaTk
import Derived.BigRegion
namespace Go.Proofs.Ytimafabbepgifaa
open Go.RowKit
set_option linter.unusedVariables false

theorem Own.ef {w w' : World} {base C : Nat} {e : TypeId} {k : IntKind} {v : Value} {xs : List Int} (h : Own w base e k v xs) (he : Ef C w w') (hC : C < base) : Own w' base e k v xs := by
  refine ⟨Nat.le_trans h.1 he.size, h.2.1, ?_⟩
  rcases h.2.2 with h0 | ⟨g, cap, cur, hv, hg, hh, r⟩
  · exact .inl h0
  · exact .inr ⟨g, cap, cur, hv, hg, (he.block g (Array.getElem?_eq_some_iff.1 hh).1 (fun e => by have := Option.some.inj e; omega)).trans hh, r⟩

/-- Rows of another type than bytes, but block b, are as they were. -/
def Kp (b : Nat) (w w' : World) : Prop := ∀ G l t, t ≠ 5 → G ≠ b → Blk w G l t → Blk w' G l t
theorem Kp.trans {b : Nat} {u w v : World} (h : Kp b u w) (k : Kp b w v) : Kp b u v := fun G l t ht hG hB => k G l t ht hG (h G l t ht hG hB)
theorem Kp.ofEf {b : Nat} {w w' : World} (h : Ef b w w') : Kp b w w' := fun G l t _ hG hB => hB.ef h hG
theorem Kp.refl (b : Nat) (w : World) : Kp b w w := fun _ _ _ _ _ h => h
theorem Kp.drewN {b : Nat} {w w' : World} (h : Kp b w w') (n : Nat) : Kp b w (w'.drewN n) := fun G l t ht hG hB => h G l t ht hG hB
theorem Kp.set {b : Nat} {w w' : World} (h : Kp b w w') (j : Nat) (u : Value) : Kp b w (w'.setCell ⟨b, j, none⟩ u) := fun G l t ht hG hB => (h G l t ht hG hB).other hG u
theorem ownBlock_ne5 {w : World} {base G : Nat} {v : Value} {xs : List Int} {l : List Value} {t : TypeId} (h : Own w base 5 .u8 v xs) (hB : Blk w G l t) (ht : t ≠ 5) : v.ownBlock ≠ some G := by
  rcases h.2.2 with ⟨rfl, _⟩ | ⟨g, cap, cur, rfl, hg, hh, r⟩
  · simp [Value.ownBlock]
  · intro e
    simp [Value.ownBlock] at e
    subst e
    unfold Blk at hB
    rw [hB] at hh
    simp at hh
    exact ht hh.2
theorem step_push1k {P : Program} {ops : Array Oper} {o : Oper} {a : Act} {K : Act → World → Prop} {Q : Exit → Act → World → Prop} {E : Prop} (w : World) (g : Nat) (hgs : w.heap.size = g) (hgd : o.guard = none) (s x : Operand) (t : TypeId)
    (ho : o.op = .call { callee := .builtin .append, args := #[s, x], argTypes := #[t, t] })
    (base : Nat) (z : Int) (bytes : Nat) (ht : P.underlying t = some (.slice 5)) (hinfo : (P.info? 5).map (fun i => (i.zero, i.size, i.bytes)) = some (some (.int .u8 z), 1, bytes))
    (v : Value) (xs : List Int) (hs : a.eval s = v) (hown : Own w base 5 .u8 v xs) (y : Int) (hx : a.eval x = .slice (some ⟨g, 0, none⟩) 1 1)
    (hlen : xs.length < 1000000000000) (hbytes : bytes ≤ 8)
    (h : ∀ v' w', Own w' base 5 .u8 v' (xs ++ [y]) → Below base w w' → (∀ G l t, t ≠ 5 → Blk w G l t → Blk w' G l t) → K (a.put o.dst v') w') :
    if Region.wanted o (yielded ops a.tmps) = true then Oper.wp P o a (w.alloc (.cells #[.int .u8 y] 5)) K Q else E := by
  subst hgs
  have hw : Region.wanted o (yielded ops a.tmps) = true := by simp [Region.wanted, hgd]
  rw [if_pos hw]
  obtain ⟨i, hi, hz0, hz1, hz2⟩ := info_parts hinfo
  have hb := hown.1
  have hlt := hown.2.lt
  have hmul : (xs.length + 1) * bytes ≤ (xs.length + 1) * 8 := Nat.mul_le_mul_left _ hbytes
  refine wp_append_own _ s x t ho base 5 i (.int .u8 z) 1 bytes ht hi hz0 hz1 hz2 rfl (by decide) v xs.length _ hs (hown.2.alloc _) ⟨w.heap.size, 0, none⟩ 1 1 [.int .u8 y] hx rfl ?_ ?_ (by unfold maxLen; omega) (by omega) (Nat.le_trans hb (by simp)) ?_
  · intro j u hj
    match j, hj with
    | 0, hj => simp at hj; subst hj; simp [Addr.add]
  · intro u hu; simp at hu; subst hu; rfl
  · intro v' w' hown' hgrow _
    refine h v' w' ⟨Nat.le_trans hb (Nat.le_trans (by simp) hgrow.size), ?_⟩ ?_ ?_
    · simpa using hown'
    · exact ((Below.refl base w).alloc hb _).grown hgrow (Nat.le_trans hb (by simp)) (fun g hg => (hlt g hg).1)
    · intro G l t ht hB
      have hB1 := hB.below ((Below.refl w.heap.size w).alloc (Nat.le_refl _) (.cells #[.int .u8 y] 5)) hB.lt
      exact (hgrow.block G hB1.lt (fun e => ownBlock_ne5 hown hB ht e.symm)).trans hB1

/-- The writer in block b, with what stands behind it there: its bounds and its own bytes. -/
def Wst (w : World) (b : Nat) (r : List Value) (t : TypeId) (lo hi : Int) (v : Value) (xs : List Int) : Prop := Blk w b (.int .u32 lo :: .int .u32 hi :: v :: r) t ∧ Own w (b + 1) 5 .u8 v xs
def cInt (w : World) (b i : Nat) : Int := intOf ((w.cell? ⟨b, i, none⟩).getD (.int .i64 0))
theorem Wst.int0 {w : World} {b : Nat} {r : List Value} {t : TypeId} {lo hi : Int} {v : Value} {xs : List Int} (h : Wst w b r t lo hi v xs) : cInt w b 0 = lo ∧ cInt w b 1 = hi := by
  unfold cInt
  rw [h.1.cell (i := 0) rfl, h.1.cell (i := 1) rfl]
  exact ⟨rfl, rfl⟩
theorem Wst.drewN {w : World} {b : Nat} {r : List Value} {t : TypeId} {lo hi : Int} {v : Value} {xs : List Int} (h : Wst w b r t lo hi v xs) (n : Nat) : Wst (w.drewN n) b r t lo hi v xs := h

set_option maxHeartbeats 400000 in
theorem crossed (b : Nat) (lo hi : Int) (r : List Value) (t : TypeId) (w : World) (hl : W32 lo) (hh : W32 hi) (hB : Blk w b (.int .u32 lo :: .int .u32 hi :: r) t) :
    Calls Try.prog 90 #[.pointer (some ⟨b, 0, none⟩)] w fun e w' => e = .returned (.bool (decide (hi < lo))) ∧ ∃ q, w' = w.drewN q := by
  have q0 : w.cell? ⟨b, 0, none⟩ = some (.int .u32 lo) := hB.cell rfl
  have q1 : w.cell? ⟨b, 1, none⟩ = some (.int .u32 hi) := hB.cell rfl
  clear hl hh hB
  go_enter Try.func90, Try.ntmps90
  go_wp2_with fail
  go_quiet (fail)
  go_wp2_with fail
  go_ret
  exact ⟨rfl, _, rfl⟩

/-- What one round of put comes to. -/
theorem put_round {w wr w4 : World} {b : Nat} {r : List Value} {t : TypeId} {l h : Int} {v' : Value} {xs acc : List Int} {PP : List Int × Int × Int} {ao1 : Option Addr} {cap1 : Nat} (hrec : Hid (W32 l ∧ W32 h ∧ PP = (acc ++ (cN l h).1, (cN l h).2))) (he : top l = top h) (hi0 : cInt wr b 0 = l ∧ cInt wr b 1 = h)
    (hB4 : Blk w4 b (.int .u32 (sl l) :: .int .u32 (sh h) :: v' :: r) t) (hown4 : Own w4 (b + 1) 5 .u8 (.slice ao1 (xs ++ acc ++ [top l]).length cap1) (xs ++ acc ++ [top l])) (hb : Below b w w4) (hkp : Kp b w w4) :
    (∃ l h v' acc_1, Hid (W32 l ∧ W32 h ∧ PP = (acc_1 ++ (cN l h).1, (cN l h).2)) ∧ Wst (w4.setCell ⟨b, 2, none⟩ (.slice ao1 (xs.length + (acc.length + 1)) cap1)) b r t l h v' (xs ++ acc_1) ∧ Below b w (w4.setCell ⟨b, 2, none⟩ (.slice ao1 (xs.length + (acc.length + 1)) cap1)) ∧ Kp b w (w4.setCell ⟨b, 2, none⟩ (.slice ao1 (xs.length + (acc.length + 1)) cap1))) ∧
    (cN (cInt (w4.setCell ⟨b, 2, none⟩ (.slice ao1 (xs.length + (acc.length + 1)) cap1)) b 0) (cInt (w4.setCell ⟨b, 2, none⟩ (.slice ao1 (xs.length + (acc.length + 1)) cap1)) b 1)).1.length < (cN (cInt wr b 0) (cInt wr b 1)).1.length := by
  have e1 : (xs ++ acc ++ [top l]).length = xs.length + (acc.length + 1) := by simp
  rw [e1] at hown4
  have hst : Wst (w4.setCell ⟨b, 2, none⟩ (.slice ao1 (xs.length + (acc.length + 1)) cap1)) b r t (sl l) (sh h) (.slice ao1 (xs.length + (acc.length + 1)) cap1) (xs ++ (acc ++ [top l])) := ⟨hB4.set 2 _, by rw [← List.append_assoc]; exact hown4.setCell_below (a := ⟨b, 2, none⟩) (Nat.lt_succ_self b) _⟩
  refine ⟨⟨sl l, sh h, _, acc ++ [top l], ⟨sl_word l, sh_word h, ?_⟩, hst, hb.setCell (p := ⟨b, 2, none⟩) (Nat.le_refl _) _, hkp.set 2 _⟩, ?_⟩
  · have := hrec.out.2.2
    rw [cN_yes he] at this
    rw [this]
    simp
  · rw [hst.int0.1, hst.int0.2, hi0.1, hi0.2, cN_yes he]
    simp

set_option maxRecDepth 100000 in
set_option maxHeartbeats 1600000 in
theorem put_yes (b : Nat) (r : List Value) (t : TypeId) (lo hi bit p : Int) (v : Value) (xs : List Int) (w : World) (hl : W32 lo) (hh : W32 hi) (hb : bit = 0 ∨ bit = 1) (hx : xs.length ≤ 1000000) (hle : lo ≤ hi) (hW : Wst w b r t lo hi v xs) :
    Calls Try.prog 65 #[.pointer (some ⟨b, 0, none⟩), .int .i64 bit, .int .i64 p] w fun e w' => e = .returned (.tuple #[]) ∧ (∃ v', Wst w' b r t (cPut lo hi bit p).2.1 (cPut lo hi bit p).2.2 v' (xs ++ (cPut lo hi bit p).1)) ∧ Below b w w' ∧ Kp b w w' := by
  have HT := hid (fun q (hq : Blk q b (.int .u32 lo :: .int .u32 hi :: v :: r) t) => take_any b lo hi bit p (v :: r) t q hl hh hb hq)
  have HL := hid (nLo_word (b := bit) (p := p) hl hh)
  have HH := hid (nHi_word (b := bit) (p := p) hl hh)
  have hO := hid hW.2
  have hBB := hid hW.1
  have hblt := hW.1.lt
  have HCR := hid (crossed b lo hi (v :: r) t w hl hh hW.1)
  rw [decide_eq_false (show ¬ hi < lo by omega)] at HCR
  have HPL := hid (show (cPut lo hi bit p).1.length ≤ 4 from cN_len _ _)
  have HP := hid (show cPut lo hi bit p = cN (nLo lo hi bit p) (nHi lo hi bit p) from rfl)
  generalize cPut lo hi bit p = PP at *
  generalize nLo lo hi bit p = L at *
  generalize nHi lo hi bit p = H at *
  clear hl hh hb hW hle
  go_enter Try.func65, Try.ntmps65
  go_wp2_with fail
  refine HCR.out.mono ?_
  rintro e w0 ⟨rfl, q, rfl⟩
  go_wp2_with fail
  refine (HT.out (w.drewN q) (hBB.out.below (below_drewN _ _) hBB.out.lt)).mono ?_
  rintro e w1 ⟨rfl, hB1, hE1⟩
  have HB1 := hid hB1
  have HO1 := hid ((show Own (w.drewN q) (b + 1) 5 .u8 v xs from hO.out).ef hE1 (Nat.lt_succ_self b))
  have BW := hid ((belowN (Below.refl b w) q).trans (hE1.below (B := b) (Nat.le_refl _) (Nat.le_of_lt hblt)))
  have KW := hid (Kp.ofEf ((Ef.ofBelow (C := b) (below_drewN w q)).trans hE1))
  clear hB1 hE1 HT hO
  go_wp2_with fail
  go_loopw [] (fun wr => ∃ (l h : Int) (v' : Value) (acc : List Int), Hid (W32 l ∧ W32 h ∧ PP = (acc ++ (cN l h).1, (cN l h).2)) ∧ Wst wr b r t l h v' (xs ++ acc) ∧ Below b w wr ∧ Kp b w wr) (fun wr => (cN (cInt wr b 0) (cInt wr b 1)).1.length)
  case atStart => exact ⟨L, H, v, [], ⟨HL.out, HH.out, by rw [HP.out]; rfl⟩, ⟨HB1.out, by simpa using HO1.out⟩, BW.out, KW.out⟩
  case round =>
    obtain ⟨l, h, v', acc, hrec, hWr, hBr, hKr⟩ := hrel
    have HKr := hid hKr
    clear HB1 HO1 BW HL HH HP KW hKr
    have hacc := hid (show acc.length ≤ 4 from by
      have h1 := congrArg (fun z => z.1.length) hrec.out.2.2
      have h2 := HPL.out
      simp only [List.length_append] at h1
      omega)
    have HS := hid (settled b l h (v' :: r) t wr hrec.out.1 hrec.out.2.1 hWr.1)
    have HWr := hid hWr
    have hi0 := hid hWr.int0
    have hlt := hWr.1.lt
    clear hWr
    by_cases e : top l = top h
    · have HSH := hid (fun q (hq : Blk q b (.int .u32 l :: .int .u32 h :: v' :: r) t) => shift_any b l h (v' :: r) t q hrec.out.1 hrec.out.2.1 hq)
      have hd : decide (top l = top h) = true := decide_eq_true e
      have hlen : (xs ++ acc).length < 1000000000000 := by
        have h1 := hacc.out
        rw [List.length_append]
        omega
      rw [hd] at HS
      have HE := hid e
      clear hd e
      go_wp2_with fail
      refine HS.out.mono ?_
      rintro e w2 ⟨rfl, q, rfl⟩
      have HW2 := hid (HWr.out.drewN q)
      have HBr := hid (belowN hBr q)
      have HKr2 := hid (HKr.out.drewN q)
      clear HS hBr
      generalize wr.drewN q = w2 at *
      have k2 := HW2.out.1.cell (i := 2) rfl
      have hlt2 := HW2.out.1.lt
      go_wp2_with fail
      go_region_law (first
        | (go_simp; go_at_call 93; refine (HSH.out _ (HW2.out.1.below (below_drewN _ 1) hlt2)).mono ?_; rintro e w3 ⟨rfl, hB3, hE3⟩; have k2' := hB3.cell (i := 2) rfl; have hlt3 := hB3.lt; have hne3 : ¬ b = w3.heap.size := Nat.ne_of_lt hB3.lt; have HO3 := hid ((HW2.out.2.drew1).ef hE3 (Nat.lt_succ_self b)))
        | (refine step_push1k w3 w3.heap.size rfl rfl (.tmp 24) (.tmp 29) 22 rfl (b + 1) 0 1 Try.underlying22 Try.info5 v' (xs ++ acc) rfl HO3.out (top l) rfl hlen (by decide) ?_; intro v1 w4 hown4 hb4 hk4; obtain ⟨ao1, cap1, rfl⟩ := hown4.shape; have HK4 := hid ((HKr2.out.trans (Kp.ofEf ((Ef.ofBelow (C := b) (below_drewN _ 1)).trans hE3))).trans (fun G l t ht _ hB => hk4 G l t ht hB)); have HB4 := hid (hB3.below hb4 (Nat.lt_succ_self b)); have k4 := HB4.out.cell (i := 2) rfl; have z4 := HB4.out.free 2))
      all_goals
        have hown5 := hid hown4
        have hbel := hid ((((belowN HBr.out 1).trans ((hE3.below (B := b) (Nat.le_refl _) (Nat.le_of_lt hlt2)))).trans (hb4.mono (Nat.le_succ b))))
        clear hown4 hb4
        go_wp2_with fail
        exact put_round hrec HE.out hi0.out HB4.out hown5.out hbel.out HK4.out
    · have hd : decide (top l = top h) = false := decide_eq_false e
      rw [hd] at HS
      have HE := hid e
      clear hd e
      go_wp2_with fail
      refine HS.out.mono ?_
      rintro e w2 ⟨rfl, q, rfl⟩
      have HW2 := hid (HWr.out.drewN q)
      have HBr := hid (belowN hBr q)
      have HKr2 := hid (HKr.out.drewN q)
      clear HS hBr
      generalize wr.drewN q = w2 at *
      go_wp2_with fail
      go_end0
      have h1 := hrec.out.2.2
      rw [cN_no HE.out] at h1
      simp only [List.append_nil] at h1
      rw [h1]
      exact ⟨rfl, ⟨v', HW2.out⟩, HBr.out, HKr2.out⟩

/-- Bounds that have crossed stay as they are. -/
theorem put_no (b : Nat) (r : List Value) (t : TypeId) (lo hi bit p : Int) (v : Value) (xs : List Int) (w : World) (hl : W32 lo) (hh : W32 hi) (hgt : hi < lo) (hW : Wst w b r t lo hi v xs) :
    Calls Try.prog 65 #[.pointer (some ⟨b, 0, none⟩), .int .i64 bit, .int .i64 p] w fun e w' => e = .returned (.tuple #[]) ∧ (∃ v', Wst w' b r t lo hi v' xs) ∧ Below b w w' ∧ Kp b w w' := by
  have HCR := hid (crossed b lo hi (v :: r) t w hl hh hW.1)
  rw [decide_eq_true hgt] at HCR
  have HW := hid hW
  clear hl hh hgt hW
  go_enter Try.func65, Try.ntmps65
  go_wp2_with fail
  refine HCR.out.mono ?_
  rintro e w0 ⟨rfl, q, rfl⟩
  go_wp2_with fail
  refine bodyPost_ret (v := .tuple #[]) (by simp [results, Try.results65, go_sem]) rfl ?_
  exact ⟨rfl, ⟨v, HW.out.drewN q⟩, belowN (Below.refl _ _) q, (Kp.refl b w).drewN q⟩

/-- The bounds and the bytes behind a bit. -/
def pPut (lo hi b p : Int) : List Int × Int × Int := if lo ≤ hi then cPut lo hi b p else ([], lo, hi)
theorem pPut_len (lo hi b p : Int) : (pPut lo hi b p).1.length ≤ 4 := by
  unfold pPut
  split
  · exact cN_len _ _
  · simp
theorem pPut_word {lo hi b p : Int} (hl : W32 lo) (hh : W32 hi) : W32 (pPut lo hi b p).2.1 ∧ W32 (pPut lo hi b p).2.2 := by
  unfold pPut
  split
  · exact ⟨(cPut_word hl hh).1, (cPut_word hl hh).2.1⟩
  · exact ⟨hl, hh⟩
theorem put_any (b : Nat) (r : List Value) (t : TypeId) (lo hi bit p : Int) (v : Value) (xs : List Int) (w : World) (hl : W32 lo) (hh : W32 hi) (hb : bit = 0 ∨ bit = 1) (hx : xs.length ≤ 1000000) (hW : Wst w b r t lo hi v xs) :
    Calls Try.prog 65 #[.pointer (some ⟨b, 0, none⟩), .int .i64 bit, .int .i64 p] w fun e w' => e = .returned (.tuple #[]) ∧ (∃ v', Wst w' b r t (pPut lo hi bit p).2.1 (pPut lo hi bit p).2.2 v' (xs ++ (pPut lo hi bit p).1)) ∧ Below b w w' ∧ Kp b w w' := by
  unfold pPut
  by_cases h : lo ≤ hi
  · rw [if_pos h]
    exact put_yes b r t lo hi bit p v xs w hl hh hb hx h hW
  · rw [if_neg h]
    simp only [List.append_nil]
    exact put_no b r t lo hi bit p v xs w hl hh (by omega) hW
end Go.Proofs.Ytimafabbepgifaa
