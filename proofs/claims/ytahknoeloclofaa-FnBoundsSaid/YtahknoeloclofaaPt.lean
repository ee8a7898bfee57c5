/- The contract of the program's writer of bits: put. -/
import Derived.Test.YtahknoeloclofaaTk
import Derived.BigRegion
namespace Go.Proofs.Ytahknoeloclofaa
open Go.RowKit
set_option linter.unusedVariables false

theorem Own.ef {w w' : World} {base C : Nat} {e : TypeId} {k : IntKind} {v : Value} {xs : List Int} (h : Own w base e k v xs) (he : Ef C w w') (hC : C < base) : Own w' base e k v xs := by
  refine ⟨Nat.le_trans h.1 he.size, h.2.1, ?_⟩
  rcases h.2.2 with h0 | ⟨g, cap, cur, hv, hg, hh, r⟩
  · exact .inl h0
  · exact .inr ⟨g, cap, cur, hv, hg, (he.block g (Array.getElem?_eq_some_iff.1 hh).1 (fun e => by have := Option.some.inj e; omega)).trans hh, r⟩

/-- The writer in block b, with what stands behind it there: its bounds and its own bytes. -/
def Wst (w : World) (b : Nat) (r : List Value) (t : TypeId) (lo hi : Int) (v : Value) (xs : List Int) : Prop := Blk w b (.int .u32 lo :: .int .u32 hi :: v :: r) t ∧ Own w (b + 1) 5 .u8 v xs
def cInt (w : World) (b i : Nat) : Int := intOf ((w.cell? ⟨b, i, none⟩).getD (.int .i64 0))
theorem Wst.int0 {w : World} {b : Nat} {r : List Value} {t : TypeId} {lo hi : Int} {v : Value} {xs : List Int} (h : Wst w b r t lo hi v xs) : cInt w b 0 = lo ∧ cInt w b 1 = hi := by
  unfold cInt
  rw [h.1.cell (i := 0) rfl, h.1.cell (i := 1) rfl]
  exact ⟨rfl, rfl⟩
theorem Wst.drewN {w : World} {b : Nat} {r : List Value} {t : TypeId} {lo hi : Int} {v : Value} {xs : List Int} (h : Wst w b r t lo hi v xs) (n : Nat) : Wst (w.drewN n) b r t lo hi v xs := h

set_option maxHeartbeats 400000 in
theorem crossed (b : Nat) (lo hi : Int) (r : List Value) (t : TypeId) (w : World) (hl : W32 lo) (hh : W32 hi) (hB : Blk w b (.int .u32 lo :: .int .u32 hi :: r) t) :
    Calls Try.prog 64 #[.pointer (some ⟨b, 0, none⟩)] w fun e w' => e = .returned (.bool (decide (hi < lo))) ∧ ∃ q, w' = w.drewN q := by
  have q0 : w.cell? ⟨b, 0, none⟩ = some (.int .u32 lo) := hB.cell rfl
  have q1 : w.cell? ⟨b, 1, none⟩ = some (.int .u32 hi) := hB.cell rfl
  clear hl hh hB
  go_enter Try.func64, Try.ntmps64
  go_wp2_with fail
  go_quiet (fail)
  go_wp2_with fail
  go_ret
  exact ⟨rfl, _, rfl⟩

/-- What one round of put comes to. -/
theorem put_round {w wr w4 : World} {b : Nat} {r : List Value} {t : TypeId} {l h : Int} {v' : Value} {xs acc : List Int} {PP : List Int × Int × Int} {ao1 : Option Addr} {cap1 : Nat} (hrec : Hid (W32 l ∧ W32 h ∧ PP = (acc ++ (cN l h).1, (cN l h).2))) (he : top l = top h) (hi0 : cInt wr b 0 = l ∧ cInt wr b 1 = h)
    (hB4 : Blk w4 b (.int .u32 (sl l) :: .int .u32 (sh h) :: v' :: r) t) (hown4 : Own w4 (b + 1) 5 .u8 (.slice ao1 (xs ++ acc ++ [top l]).length cap1) (xs ++ acc ++ [top l])) (hb : Below b w w4) :
    (∃ l h v' acc_1, Hid (W32 l ∧ W32 h ∧ PP = (acc_1 ++ (cN l h).1, (cN l h).2)) ∧ Wst (w4.setCell ⟨b, 2, none⟩ (.slice ao1 (xs.length + (acc.length + 1)) cap1)) b r t l h v' (xs ++ acc_1) ∧ Below b w (w4.setCell ⟨b, 2, none⟩ (.slice ao1 (xs.length + (acc.length + 1)) cap1))) ∧
    (cN (cInt (w4.setCell ⟨b, 2, none⟩ (.slice ao1 (xs.length + (acc.length + 1)) cap1)) b 0) (cInt (w4.setCell ⟨b, 2, none⟩ (.slice ao1 (xs.length + (acc.length + 1)) cap1)) b 1)).1.length < (cN (cInt wr b 0) (cInt wr b 1)).1.length := by
  have e1 : (xs ++ acc ++ [top l]).length = xs.length + (acc.length + 1) := by simp
  rw [e1] at hown4
  have hst : Wst (w4.setCell ⟨b, 2, none⟩ (.slice ao1 (xs.length + (acc.length + 1)) cap1)) b r t (sl l) (sh h) (.slice ao1 (xs.length + (acc.length + 1)) cap1) (xs ++ (acc ++ [top l])) := ⟨hB4.set 2 _, by rw [← List.append_assoc]; exact hown4.setCell_below (a := ⟨b, 2, none⟩) (Nat.lt_succ_self b) _⟩
  refine ⟨⟨sl l, sh h, _, acc ++ [top l], ⟨sl_word l, sh_word h, ?_⟩, hst, hb.setCell (p := ⟨b, 2, none⟩) (Nat.le_refl _) _⟩, ?_⟩
  · have := hrec.out.2.2
    rw [cN_yes he] at this
    rw [this]
    simp
  · rw [hst.int0.1, hst.int0.2, hi0.1, hi0.2, cN_yes he]
    simp

set_option maxRecDepth 100000 in
set_option maxHeartbeats 1600000 in
theorem put_yes (b : Nat) (r : List Value) (t : TypeId) (lo hi bit p : Int) (v : Value) (xs : List Int) (w : World) (hl : W32 lo) (hh : W32 hi) (hb : bit = 0 ∨ bit = 1) (hx : xs.length ≤ 1000000) (hle : lo ≤ hi) (hW : Wst w b r t lo hi v xs) :
    Calls Try.prog 41 #[.pointer (some ⟨b, 0, none⟩), .int .i64 bit, .int .i64 p] w fun e w' => e = .returned (.tuple #[]) ∧ (∃ v', Wst w' b r t (cPut lo hi bit p).2.1 (cPut lo hi bit p).2.2 v' (xs ++ (cPut lo hi bit p).1)) ∧ Below b w w' := by
  have HT := hid (fun q (hq : Blk q b (.int .u32 lo :: .int .u32 hi :: v :: r) t) => take_any b lo hi bit p (v :: r) t q hl hh hb hq)
  have HL := hid (nLo_word (b := bit) (p := p) hl hh)
  have HH := hid (nHi_word (b := bit) (p := p) hl hh)
  have hO := hid hW.2
  have hBB := hid hW.1
  have hblt := hW.1.lt
  have HCR := hid (crossed b lo hi (v :: r) t w hl hh hW.1)
  rw [decide_eq_false (show ¬ hi < lo by omega)] at HCR
  have HPL := hid (show (cPut lo hi bit p).1.length ≤ 4 from cN_len _ _)
  have HP := hid (show cPut lo hi bit p = cN (nLo lo hi bit p) (nHi lo hi bit p) from rfl)
  generalize cPut lo hi bit p = PP at *
  generalize nLo lo hi bit p = L at *
  generalize nHi lo hi bit p = H at *
  clear hl hh hb hW hle
  go_enter Try.func41, Try.ntmps41
  go_wp2_with fail
  refine HCR.out.mono ?_
  rintro e w0 ⟨rfl, q, rfl⟩
  go_wp2_with fail
  refine (HT.out (w.drewN q) (hBB.out.below (below_drewN _ _) hBB.out.lt)).mono ?_
  rintro e w1 ⟨rfl, hB1, hE1⟩
  have HB1 := hid hB1
  have HO1 := hid ((show Own (w.drewN q) (b + 1) 5 .u8 v xs from hO.out).ef hE1 (Nat.lt_succ_self b))
  have BW := hid ((belowN (Below.refl b w) q).trans (hE1.below (B := b) (Nat.le_refl _) (Nat.le_of_lt hblt)))
  clear hB1 hE1 HT hO
  go_wp2_with fail
  go_loopw [] (fun wr => ∃ (l h : Int) (v' : Value) (acc : List Int), Hid (W32 l ∧ W32 h ∧ PP = (acc ++ (cN l h).1, (cN l h).2)) ∧ Wst wr b r t l h v' (xs ++ acc) ∧ Below b w wr) (fun wr => (cN (cInt wr b 0) (cInt wr b 1)).1.length)
  case atStart => exact ⟨L, H, v, [], ⟨HL.out, HH.out, by rw [HP.out]; rfl⟩, ⟨HB1.out, by simpa using HO1.out⟩, BW.out⟩
  case round =>
    obtain ⟨l, h, v', acc, hrec, hWr, hBr⟩ := hrel
    clear HB1 HO1 BW HL HH HP
    have hacc := hid (show acc.length ≤ 4 from by
      have h1 := congrArg (fun z => z.1.length) hrec.out.2.2
      have h2 := HPL.out
      simp only [List.length_append] at h1
      omega)
    have HS := hid (settled b l h (v' :: r) t wr hrec.out.1 hrec.out.2.1 hWr.1)
    have HWr := hid hWr
    have hi0 := hid hWr.int0
    have hlt := hWr.1.lt
    clear hWr
    by_cases e : top l = top h
    · have HSH := hid (fun q (hq : Blk q b (.int .u32 l :: .int .u32 h :: v' :: r) t) => shift_any b l h (v' :: r) t q hrec.out.1 hrec.out.2.1 hq)
      have hd : decide (top l = top h) = true := decide_eq_true e
      have hlen : (xs ++ acc).length < 1000000000000 := by
        have h1 := hacc.out
        rw [List.length_append]
        omega
      rw [hd] at HS
      have HE := hid e
      clear hd e
      go_wp2_with fail
      refine HS.out.mono ?_
      rintro e w2 ⟨rfl, q, rfl⟩
      have HW2 := hid (HWr.out.drewN q)
      have HBr := hid (belowN hBr q)
      clear HS hBr
      generalize wr.drewN q = w2 at *
      have k2 := HW2.out.1.cell (i := 2) rfl
      have hlt2 := HW2.out.1.lt
      go_wp2_with fail
      go_region_law (first
        | (go_simp; go_at_call 67; refine (HSH.out _ (HW2.out.1.below (below_drewN _ 1) hlt2)).mono ?_; rintro e w3 ⟨rfl, hB3, hE3⟩; have k2' := hB3.cell (i := 2) rfl; have hlt3 := hB3.lt; have hne3 : ¬ b = w3.heap.size := Nat.ne_of_lt hB3.lt; have HO3 := hid ((HW2.out.2.drew1).ef hE3 (Nat.lt_succ_self b)))
        | (refine step_push1g w3 w3.heap.size rfl rfl (.tmp 24) (.tmp 29) 22 rfl (b + 1) 5 .u8 0 1 Try.underlying22 Try.info5 v' (xs ++ acc) rfl HO3.out (top l) rfl hlen (by decide) ?_; intro v1 w4 hown4 hb4; obtain ⟨ao1, cap1, rfl⟩ := hown4.shape; have HB4 := hid (hB3.below hb4 (Nat.lt_succ_self b)); have k4 := HB4.out.cell (i := 2) rfl; have z4 := HB4.out.free 2))
      all_goals
        have hown5 := hid hown4
        have hbel := hid ((((belowN HBr.out 1).trans ((hE3.below (B := b) (Nat.le_refl _) (Nat.le_of_lt hlt2)))).trans (hb4.mono (Nat.le_succ b))))
        clear hown4 hb4
        go_wp2_with fail
        exact put_round hrec HE.out hi0.out HB4.out hown5.out hbel.out
    · have hd : decide (top l = top h) = false := decide_eq_false e
      rw [hd] at HS
      have HE := hid e
      clear hd e
      go_wp2_with fail
      refine HS.out.mono ?_
      rintro e w2 ⟨rfl, q, rfl⟩
      have HW2 := hid (HWr.out.drewN q)
      have HBr := hid (belowN hBr q)
      clear HS hBr
      generalize wr.drewN q = w2 at *
      go_wp2_with fail
      go_end0
      have h1 := hrec.out.2.2
      rw [cN_no HE.out] at h1
      simp only [List.append_nil] at h1
      rw [h1]
      exact ⟨rfl, ⟨v', HW2.out⟩, HBr.out⟩

/-- Bounds that have crossed stay as they are. -/
theorem put_no (b : Nat) (r : List Value) (t : TypeId) (lo hi bit p : Int) (v : Value) (xs : List Int) (w : World) (hl : W32 lo) (hh : W32 hi) (hgt : hi < lo) (hW : Wst w b r t lo hi v xs) :
    Calls Try.prog 41 #[.pointer (some ⟨b, 0, none⟩), .int .i64 bit, .int .i64 p] w fun e w' => e = .returned (.tuple #[]) ∧ (∃ v', Wst w' b r t lo hi v' xs) ∧ Below b w w' := by
  have HCR := hid (crossed b lo hi (v :: r) t w hl hh hW.1)
  rw [decide_eq_true hgt] at HCR
  have HW := hid hW
  clear hl hh hgt hW
  go_enter Try.func41, Try.ntmps41
  go_wp2_with fail
  refine HCR.out.mono ?_
  rintro e w0 ⟨rfl, q, rfl⟩
  go_wp2_with fail
  refine bodyPost_ret (v := .tuple #[]) (by simp [results, Try.results41, go_sem]) rfl ?_
  exact ⟨rfl, ⟨v, HW.out.drewN q⟩, belowN (Below.refl _ _) q⟩

/-- The bounds and the bytes behind a bit. -/
def pPut (lo hi b p : Int) : List Int × Int × Int := if lo ≤ hi then cPut lo hi b p else ([], lo, hi)
theorem pPut_len (lo hi b p : Int) : (pPut lo hi b p).1.length ≤ 4 := by
  unfold pPut
  split
  · exact cN_len _ _
  · simp
theorem pPut_word {lo hi b p : Int} (hl : W32 lo) (hh : W32 hi) : W32 (pPut lo hi b p).2.1 ∧ W32 (pPut lo hi b p).2.2 := by
  unfold pPut
  split
  · exact ⟨(cPut_word hl hh).1, (cPut_word hl hh).2.1⟩
  · exact ⟨hl, hh⟩
theorem put_any (b : Nat) (r : List Value) (t : TypeId) (lo hi bit p : Int) (v : Value) (xs : List Int) (w : World) (hl : W32 lo) (hh : W32 hi) (hb : bit = 0 ∨ bit = 1) (hx : xs.length ≤ 1000000) (hW : Wst w b r t lo hi v xs) :
    Calls Try.prog 41 #[.pointer (some ⟨b, 0, none⟩), .int .i64 bit, .int .i64 p] w fun e w' => e = .returned (.tuple #[]) ∧ (∃ v', Wst w' b r t (pPut lo hi bit p).2.1 (pPut lo hi bit p).2.2 v' (xs ++ (pPut lo hi bit p).1)) ∧ Below b w w' := by
  unfold pPut
  by_cases h : lo ≤ hi
  · rw [if_pos h]
    exact put_yes b r t lo hi bit p v xs w hl hh hb hx h hW
  · rw [if_neg h]
    simp only [List.append_nil]
    exact put_no b r t lo hi bit p v xs w hl hh (by omega) hW
end Go.Proofs.Ytahknoeloclofaa
