/- BestCodes of the specification. -/
import Derived.Test.YtnnakmgngkpghaaGreatBtd
import Derived.Test.YtnnakmgngkpghaaGreatTo
import Derived.Maps.AppendAt
namespace Go.Proofs.YtnnakmgngkpghaaGreat
open Go.RowKit
set_option linter.unusedVariables false

/-- 'out = append(out, y)', where the row then lies, and what else is as it was. -/
theorem wpList_pushB {P : Program} {ops : Array Oper} {rest : List Oper} {o : Oper} {a : Act} {Q : Exit → Act → World → Prop} (w : World) (hgd : o.guard = none) (s x : Operand) (t : TypeId)
    (ho : o.op = .call { callee := .builtin .append, args := #[s, x], argTypes := #[t, t] })
    (base : Nat) (e : TypeId) (k : IntKind) (z : Int) (bytes : Nat) (ht : P.underlying t = some (.slice e)) (hinfo : (P.info? e).map (fun i => (i.zero, i.size, i.bytes)) = some (some (.int k z), 1, bytes))
    (v : Value) (xs : List Int) (hs : a.eval s = v) (hown : Own w base e k v xs) (y : Int) (hx : a.eval x = .slice (some ⟨w.heap.size, 0, none⟩) 1 1)
    (hlen : xs.length < 1000000000000) (hbytes : bytes ≤ 8)
    (h : ∀ v' w', Own w' base e k v' (xs ++ [y]) → Below base w w' → (∀ g, g < w.heap.size → some g ≠ v.ownBlock → w'.heap[g]? = w.heap[g]?) → (v'.ownBlock = v.ownBlock ∨ ∃ g, v'.ownBlock = some g ∧ w.heap.size ≤ g) → wpList P ops Q rest (a.put o.dst v') w') : wpList P ops Q (o :: rest) a (w.alloc (.cells #[.int k y] e)) := by
  obtain ⟨i, hi, hz0, hz1, hz2⟩ := info_parts hinfo
  have hb := hown.1
  have hlt := hown.2.lt
  have hmul : (xs.length + 1) * bytes ≤ (xs.length + 1) * 8 := Nat.mul_le_mul_left _ hbytes
  refine wpList_append_own_at _ hgd s x t ho base e i (.int k z) 1 bytes ht hi hz0 hz1 hz2 rfl (by decide) v xs.length _ hs (hown.2.alloc _) ⟨w.heap.size, 0, none⟩ 1 1 [.int k y] hx rfl ?_ ?_ (by unfold maxLen; omega) (by omega) (Nat.le_trans hb (by simp)) ?_
  · intro j u hj
    match j, hj with
    | 0, hj => simp at hj; subst hj; simp [Addr.add]
  · intro u hu; simp at hu; subst hu; rfl
  · intro v' w' hown' hgrow _ hat
    refine h v' w' ⟨Nat.le_trans hb (Nat.le_trans (by simp) hgrow.size), ?_⟩ ?_ ?_ ?_
    · simpa using hown'
    · exact ((Below.refl base w).alloc hb _).grown hgrow (Nat.le_trans hb (by simp)) (fun g hg => (hlt g hg).1)
    · intro g hg hne
      exact (hgrow.block g (Nat.lt_trans hg (by simp)) hne).trans (((Below.refl w.heap.size w).alloc (Nat.le_refl _) _).block g hg)
    · rcases hat with h1 | h1
      · exact .inl h1
      · exact .inr ⟨_, h1, by simp⟩

/-- What stands while codes are laid out: the variable in block C; its two rows are apart. -/
def Dst (w0 wr : World) (C : Nat) (cs ss : List Int) : Prop := ∃ cv sv, Two wr C cv sv 31 ∧ Own wr w0.heap.size 3 .i64 cv cs ∧ Own wr w0.heap.size 3 .i64 sv ss ∧ (∀ g, cv.ownBlock = some g → sv.ownBlock ≠ some g) ∧ Below w0.heap.size w0 wr
theorem Own.keep {w w' : World} {base : Nat} {v : Value} {xs : List Int} {b : Option Nat} (h : Own w base 3 .i64 v xs) (hs : w.heap.size ≤ w'.heap.size) (hk : ∀ g, g < w.heap.size → some g ≠ b → w'.heap[g]? = w.heap[g]?) (hne : ∀ g, v.ownBlock = some g → b ≠ some g) : Own w' base 3 .i64 v xs := by
  refine ⟨Nat.le_trans h.1 hs, h.2.1, ?_⟩
  rcases h.2.2 with h0 | ⟨g, cap, cur, hv, hg, hh, r⟩
  · exact .inl h0
  · exact .inr ⟨g, cap, cur, hv, hg, (hk g (Array.getElem?_eq_some_iff.1 hh).1 (fun e => hne g (by rw [hv]; rfl) e.symm)).trans hh, r⟩
theorem Two.keep {w w' : World} {C : Nat} {x y : Value} {v : Value} {base : Nat} {xs : List Int} (h : Two w C x y 31) (ho : Own w base 3 .i64 v xs) (hk : ∀ g, g < w.heap.size → some g ≠ v.ownBlock → w'.heap[g]? = w.heap[g]?) : Two w' C x y 31 := (hk C h.lt (fun e => ho.ne26 h e.symm)).trans h
/-- One symbol more. -/
theorem Dst.sym {w0 wr w' : World} {C : Nat} {cs ss : List Int} {cv sv v' : Value} {y : Int} (hC : w0.heap.size ≤ C) (h1 : Two wr C cv sv 31) (h2 : Own wr w0.heap.size 3 .i64 cv cs) (h3 : Own wr w0.heap.size 3 .i64 sv ss) (h4 : ∀ g, cv.ownBlock = some g → sv.ownBlock ≠ some g) (h5 : Below w0.heap.size w0 wr)
    (ho : Own w' w0.heap.size 3 .i64 v' (ss ++ [y])) (hb : Below w0.heap.size wr w') (hk : ∀ g, g < wr.heap.size → some g ≠ sv.ownBlock → w'.heap[g]? = wr.heap[g]?) (hat : v'.ownBlock = sv.ownBlock ∨ ∃ g, v'.ownBlock = some g ∧ wr.heap.size ≤ g) :
    Two w' C cv sv 31 ∧ Dst w0 (w'.setCell ⟨C, 1, none⟩ v') C cs (ss ++ [y]) := by
  have t1 := h1.keep h3 hk
  have o2 : Own w' w0.heap.size 3 .i64 cv cs := h2.keep hb.size hk (fun g hg => h4 g hg)
  refine ⟨t1, cv, v', t1.set1 _, o2.ef (t := 31) (l := [cv, sv]) t1 (by decide) (Ef.set _ _ _), ho.ef (t := 31) (l := [cv, sv]) t1 (by decide) (Ef.set _ _ _), fun g hg e => ?_, (h5.trans hb).setCell (p := ⟨C, 1, none⟩) hC _⟩
  rcases hat with h | ⟨k, h, hk2⟩
  · exact h4 g hg (by rw [← h]; exact e)
  · rw [h] at e
    have := Option.some.inj e
    have := h2.blk_lt g hg
    omega
/-- One count more. -/
theorem Dst.cnt {w0 wr w' : World} {C : Nat} {cs ss : List Int} {cv sv v' : Value} {y : Int} (hC : w0.heap.size ≤ C) (h1 : Two wr C cv sv 31) (h2 : Own wr w0.heap.size 3 .i64 cv cs) (h3 : Own wr w0.heap.size 3 .i64 sv ss) (h4 : ∀ g, cv.ownBlock = some g → sv.ownBlock ≠ some g) (h5 : Below w0.heap.size w0 wr)
    (ho : Own w' w0.heap.size 3 .i64 v' (cs ++ [y])) (hb : Below w0.heap.size wr w') (hk : ∀ g, g < wr.heap.size → some g ≠ cv.ownBlock → w'.heap[g]? = wr.heap[g]?) (hat : v'.ownBlock = cv.ownBlock ∨ ∃ g, v'.ownBlock = some g ∧ wr.heap.size ≤ g) :
    Two w' C cv sv 31 ∧ Dst w0 (w'.setCell ⟨C, 0, none⟩ v') C (cs ++ [y]) ss := by
  have t1 := h1.keep h2 hk
  have o3 : Own w' w0.heap.size 3 .i64 sv ss := h3.keep hb.size hk (fun g hg e => h4 g e hg)
  refine ⟨t1, v', sv, t1.set0 _, ho.ef (t := 31) (l := [cv, sv]) t1 (by decide) (Ef.set _ _ _), o3.ef (t := 31) (l := [cv, sv]) t1 (by decide) (Ef.set _ _ _), fun g hg e => ?_, (h5.trans hb).setCell (p := ⟨C, 0, none⟩) hC _⟩
  rcases hat with h | ⟨k, h, hk2⟩
  · exact h4 g (by rw [← h]; exact hg) e
  · rw [h] at hg
    have := Option.some.inj hg
    have := h3.blk_lt g e
    omega

/-- Codes whose two rows are the call's own and apart. -/
def BO (w : World) (base : Nat) (v : Value) (cs ss : List Int) : Prop := ∃ cv sv, v = .agg #[cv, sv] ∧ Own w base 3 .i64 cv cs ∧ Own w base 3 .i64 sv ss ∧ ∀ g, cv.ownBlock = some g → sv.ownBlock ≠ some g
theorem BO.cv {w : World} {base : Nat} {v : Value} {cs ss : List Int} (h : BO w base v cs ss) : CV w v cs ss := by
  obtain ⟨cv, sv, rfl, h1, h2, _⟩ := h
  obtain ⟨a0, c0, rfl, v0⟩ := h1.view
  obtain ⟨a1, c1, rfl, v1⟩ := h2.view
  exact ⟨a0, c0, a1, c1, rfl, v0, v1⟩
theorem run_len : ∀ (f : Nat) (S : List PT) (l : List Int), (runP f S l).length = l.length
  | 0, _, _ => rfl
  | f + 1, S, l => by
    rw [runP]
    split
    · rw [run_len f, bumpTo_len]
    · rfl
theorem lensP_len (fs : List Int) : (lensP fs).length = 257 := by
  have := run_len 257 (initP fs 256 ++ [(0, 256, [256])]) z257
  rw [z257_len] at this
  exact this

set_option maxRecDepth 20000 in
set_option maxHeartbeats 3200000 in
theorem spec_best (ao : Option Addr) (n cap : Nat) (fs : List Int) (w : World) (hn : n ≤ 1048576) (hv : View .i64 w ao n fs) :
    Calls Tryz.prog 78 #[.slice ao n cap] w fun e w' => ∃ v, e = .returned (.tuple #[v, .bool (bB fs)]) ∧ BO w' w.heap.size v (bC fs) (bS fs) ∧ Below w.heap.size w w' := by
  have hA0 := (Below.refl w.heap.size w).alloc (Nat.le_refl _) (.cells #[.slice none 0 0, .slice none 0 0] 31)
  have hT0 := Two.new w (.slice none 0 0) (.slice none 0 0) 31
  have hV0 := hv.below (Nat.le_refl _) hA0
  have hs0 : (w.alloc (.cells #[.slice none 0 0, .slice none 0 0] 31)).heap.size = w.heap.size + 1 := by simp
  have HQ := hid (spec_freqs ao n cap fs (w.alloc (.cells #[.slice none 0 0, .slice none 0 0] 31)) hn hV0)
  have HV := hid hV0
  have HN : Hid (∀ w', Below (w.heap.size + 1) (w.alloc (.cells #[.slice none 0 0, .slice none 0 0] 31)) w' → Two w' w.heap.size (.slice none 0 0) (.slice none 0 0) 31) := hid (fun w' h => hT0.below h (by omega))
  have hCN : ∀ q : World, w.heap.size ≤ q.heap.size → BO q w.heap.size (.agg #[.slice none 0 0, .slice none 0 0]) [] [] := fun q h => ⟨_, _, rfl, Own.nil q 3 .i64 _ h, Own.nil q 3 .i64 _ h, fun g hg => by cases hg⟩
  have HN2 : Hid (∀ w', Below (w.heap.size + 1) (w.alloc (.cells #[.slice none 0 0, .slice none 0 0] 31)) w' → BO ((w'.setCell ⟨w.heap.size, 0, none⟩ (.slice none 0 0)).setCell ⟨w.heap.size, 1, none⟩ (.slice none 0 0)) w.heap.size (.agg #[.slice none 0 0, .slice none 0 0]) [] [] ∧ Below w.heap.size w ((w'.setCell ⟨w.heap.size, 0, none⟩ (.slice none 0 0)).setCell ⟨w.heap.size, 1, none⟩ (.slice none 0 0))) := hid (fun w' h => by
    have hb : Below w.heap.size w ((w'.setCell ⟨w.heap.size, 0, none⟩ (.slice none 0 0)).setCell ⟨w.heap.size, 1, none⟩ (.slice none 0 0)) := ((hA0.trans (h.mono (by omega))).setCell (p := ⟨w.heap.size, 0, none⟩) (Nat.le_refl _) _).setCell (p := ⟨w.heap.size, 1, none⟩) (Nat.le_refl _) _
    exact ⟨hCN _ hb.size, hb⟩)
  have HCN := hid hCN
  have HA0 := hid hA0
  clear hv hn hA0 hT0 hV0 hs0 hCN
  cases hF : freqs fs with
  | false =>
    have hB : bB fs = false := by unfold bB; rw [hF]; rfl
    have hC : bC fs = [] := by unfold bC; rw [hB]; rfl
    have hS : bS fs = [] := by unfold bS; rw [hB]; rfl
    rw [hB, hC, hS]
    rw [hF] at HQ
    clear hB hC hS hF
    obtain ⟨q0, q1, q2, q3⟩ := (HN.out _ (Below.refl _ _)).cells
    go_enter Tryz.func78, Tryz.ntmps78
    go_wp2_with (first | (go_at_call 92; refine HQ.out.mono ?_; rintro e w1 ⟨rfl, rfl⟩) | fail)
    refine bodyPost_ret (v := .tuple #[.agg #[.slice none 0 0, .slice none 0 0], .bool false]) (by simp [results, Tryz.results78, go_sem]) rfl ⟨_, rfl, HCN.out _ HA0.out.size, HA0.out⟩
  | true =>
    have hfa := freqs_at hF
    have hn : n = 256 := by have := HV.out.1; omega
    subst hn
    rw [hF] at HQ
    have HT := hid (spec_lengths ao cap fs (w.alloc (.cells #[.slice none 0 0, .slice none 0 0] 31)) HV.out hfa.2)
    have HPOS := hid (show posTo (lensP fs) 256 = np fs from posTo_np fs 256 (Nat.le_refl _))
    have HDP := hid (show deepTo (lensP fs) 256 = decide (16 < maxTo (lensP fs) 255) from deepTo_max (lensP fs) 255)
    have HBB := hid (show bB fs = decide (1 ≤ np fs ∧ np fs ≤ 255) from by unfold bB; rw [hF]; rfl)
    have HLL := hid (lensP_len fs)
    have HC := hid (show bC fs = if bB fs = true then cntsTo (bestL (lensP fs)) 16 else [] from rfl)
    have HS := hid (show bS fs = if bB fs = true then symsTo (bestL (lensP fs)) 16 else [] from rfl)
    have HBL := hid (show bestL (lensP fs) = if 16 < maxTo (lensP fs) 255 then evenTo (lensP fs) 256 else lensP fs from rfl)
    generalize lensP fs = R at *
    generalize np fs = N at *
    obtain ⟨BB, hBB⟩ : ∃ BB, BB = bB fs := ⟨_, rfl⟩
    obtain ⟨CL, hCL⟩ : ∃ CL, CL = bC fs := ⟨_, rfl⟩
    obtain ⟨SL, hSL⟩ : ∃ SL, SL = bS fs := ⟨_, rfl⟩
    rw [← hBB] at HBB HC HS ⊢
    rw [← hCL] at HC ⊢
    rw [← hSL] at HS ⊢
    clear hfa hF hBB hCL hSL
    go_enter Tryz.func78, Tryz.ntmps78
    go_wp2_with (first | (go_at_call 92; refine HQ.out.mono ?_; rintro e w1 ⟨rfl, rfl⟩) | (go_at_call 93; refine HT.out.mono ?_; rintro e w2 ⟨v2, rfl, ho2, hb2⟩) | fail)
    obtain ⟨a2, c2, rfl⟩ := ho2.shape
    obtain ⟨g, rfl⟩ := ho2.some_of (fun e => by have := HLL.out; rw [e] at this; cases this)
    have HO2 := hid ho2
    have HB2 : Hid (Below (w.heap.size + 1) (w.alloc (.cells #[.slice none 0 0, .slice none 0 0] 31)) w2) := hid (by have := hb2; simp at this; exact this)
    rw [HLL.out] at HO2 ⊢
    have HLT : Hid (w.heap.size + 1 ≤ g) := hid (by have := ho2.ge.1; simp at this; exact this)
    clear ho2 hb2 HQ HT
    go_loop [5, 6, 7] (fun n d i => ∃ k : Nat, k ≤ 256 ∧ i = .int .i64 k ∧ n = .int .i64 (posTo R k) ∧ d = .bool (deepTo R k)) (fun _ _ i => 256 - (intOf i).toNat)
    case atStart => exact ⟨0, by decide, rfl, rfl, rfl⟩
    case round =>
      obtain ⟨k, hk, rfl, rfl, rfl⟩ := hrel
      by_cases hlt : k < 256
      · have hlt' : (k : Int) < 256 := by omega
        have hcl := HO2.out.at k (by rw [HLL.out]; omega)
        have hpl := posTo_le R k
        have HP1 := hid (show posTo R (k + 1) = if 0 < R.getD k 0 then posTo R k + 1 else posTo R k from rfl)
        have HD1 := hid (show deepTo R (k + 1) = if 16 < R.getD k 0 then true else deepTo R k from rfl)
        generalize R.getD k 0 = X at *
        generalize posTo R k = PK at *
        generalize deepTo R k = DK at *
        by_cases h16 : 16 < X
        · have e1 : decide ((16 : Int) < X) = true := by simpa using h16
          have e2 : decide ((0 : Int) < X) = true := by simp; omega
          rw [if_pos (show 0 < X by omega)] at HP1
          rw [if_pos h16] at HD1
          clear h16
          go_wp2
          go_round
          case rel => exact ⟨k + 1, by omega, by go_num, by rw [HP1.out]; go_num, by rw [HD1.out]⟩
          case measure => simp [intOf]; omega
        · have e1 : decide ((16 : Int) < X) = false := by simpa using h16
          rw [if_neg h16] at HD1
          by_cases h0 : 0 < X
          · have e2 : decide ((0 : Int) < X) = true := by simpa using h0
            rw [if_pos h0] at HP1
            clear h16 h0
            go_wp2
            go_round
            case rel => exact ⟨k + 1, by omega, by go_num, by rw [HP1.out]; go_num, by rw [HD1.out]⟩
            case measure => simp [intOf]; omega
          · have e2 : decide ((0 : Int) < X) = false := by simpa using h0
            rw [if_neg h0] at HP1
            clear h16 h0
            go_wp2
            go_round
            case rel => exact ⟨k + 1, by omega, by go_num, by rw [HP1.out], by rw [HD1.out]⟩
            case measure => simp [intOf]; omega
      · obtain rfl : k = 256 := by omega
        rw [HPOS.out, HDP.out]
        clear hk hlt HPOS HDP
        by_cases hb : 1 ≤ N ∧ N ≤ 255
        · have hBt : BB = true := by rw [HBB.out]; exact decide_eq_true hb
          subst hBt
          have HC2 := hid (show CL = cntsTo (bestL R) 16 from by rw [HC.out]; rfl)
          have HS2 := hid (show SL = symsTo (bestL R) 16 from by rw [HS.out]; rfl)
          have hin := in_yes (show (1 : Int) ≤ (N : Int) ∧ (N : Int) ≤ 255 from by omega)
          clear HC HS HBB hb HN2 HCN
          cases hD : decide (16 < maxTo R 255) with
          | true =>
            have HBLD := hid (show bestL R = evenTo R 256 from by rw [HBL.out, if_pos (of_decide_eq_true hD)])
            have HBL2 := HBLD
            clear hD HBL
            go_wp2_with (first | (go_at_call 20; refine (spec_in _ _ _ _).mono ?_; rw [hin]; rintro e w5 ⟨rfl, rfl⟩) | fail)
            go_loopw [8] (fun i wr => ∃ k : Nat, k ≤ 256 ∧ i = .int .i64 k ∧ Hid (Own wr (w.heap.size + 1) 3 .i64 (.slice (some ⟨g, 0, none⟩) 257 c2) (evenTo R k) ∧ Below (w.heap.size + 1) (w.alloc (.cells #[.slice none 0 0, .slice none 0 0] 31)) wr)) (fun i _ => 256 - (intOf i).toNat)
            case atStart => exact ⟨0, by decide, rfl, hid ⟨by have h := HO2.out; have e : w.heap.size + 1 = (w.alloc (.cells #[.slice none 0 0, .slice none 0 0] 31)).heap.size := (by simp); rw [e]; exact h, HB2.out⟩⟩
            case round =>
              obtain ⟨k, hk, rfl, hO⟩ := hrel
              by_cases hlt : k < 256
              · have hlt' : (k : Int) < 256 := by omega
                have hcl := hO.out.1.at k (by rw [evenTo_len, HLL.out]; omega)
                have hfr := hO.out.1.free k
                rw [evenTo_off R k k (Nat.le_refl _)] at hcl
                have HST := hid (show evenTo R (k + 1) = if 0 < R.getD k 0 then (evenTo R k).set k 8 else evenTo R k from rfl)
                generalize R.getD k 0 = X at *
                by_cases hX : 0 < X
                · have HE2 := hid (show Own (wr.setCell ⟨g, k, none⟩ (.int .i64 8)) (w.heap.size + 1) 3 .i64 (.slice (some ⟨g, 0, none⟩) 257 c2) (evenTo R (k + 1)) ∧ Below (w.heap.size + 1) (w.alloc (.cells #[.slice none 0 0, .slice none 0 0] 31)) (wr.setCell ⟨g, k, none⟩ (.int .i64 8)) from ⟨by rw [HST.out, if_pos hX]; exact hO.out.1.store k 8, hO.out.2.setCell (p := ⟨g, k, none⟩) HLT.out _⟩)
                  have hX1 : decide (0 < X) = true := by simpa using hX
                  clear HST hX
                  go_wp2_with fail
                  go_roundw
                  case rel => exact ⟨k + 1, by omega, by go_num, HE2⟩
                  case measure => simp [intOf]; omega
                · have HE2 := hid (show Own wr (w.heap.size + 1) 3 .i64 (.slice (some ⟨g, 0, none⟩) 257 c2) (evenTo R (k + 1)) ∧ Below (w.heap.size + 1) (w.alloc (.cells #[.slice none 0 0, .slice none 0 0] 31)) wr from ⟨by rw [HST.out, if_neg hX]; exact hO.out.1, hO.out.2⟩)
                  have hX1 : decide (0 < X) = false := by simpa using hX
                  clear HST hX
                  go_wp2_with fail
                  go_roundw
                  case rel => exact ⟨k + 1, by omega, by go_num, HE2⟩
                  case measure => simp [intOf]; omega
              · have hk256 : k = 256 := by omega
                have hk0 : ¬ ((k : Int) < 256) := by omega
                rw [hk256] at hO
                have HOX := hid (show Own wr (w.heap.size + 1) 3 .i64 (.slice (some ⟨g, 0, none⟩) 257 c2) (bestL R) from by rw [HBLD.out]; exact hO.out.1)
                have HBX := hid hO.out.2
                clear hO hk hlt HO2 HB2 hk256
                have HLX := hid (show (bestL R).length = 257 from by rw [bestL_len, HLL.out])
                obtain ⟨wx, hwx⟩ : ∃ wx, wx = wr := ⟨_, rfl⟩
                subst hwx
                have H3 := hid (show Dst wx (wx.alloc (.cells #[.slice none 0 0, .slice none 0 0] 31)) wx.heap.size [] [] from ⟨_, _, Two.new wx _ _ 31, Own.nil _ 3 .i64 _ (by simp), Own.nil _ 3 .i64 _ (by simp), fun g hg => (by cases hg), (Below.refl _ _).alloc (Nat.le_refl _) _⟩)
                have HVX := hid (show ∀ wz, Below wx.heap.size wx wz → Own wz (w.heap.size + 1) 3 .i64 (.slice (some ⟨g, 0, none⟩) 257 c2) (bestL R) from fun wz h => HOX.out.below h)
                clear HOX HBL2 HBLD
                generalize bestL R = L at *
                go_wp2_with fail
                go_loopw [10] (fun i wz => ∃ n : Nat, n ≤ 16 ∧ i = .int .i64 ((n : Int) + 1) ∧ Hid (Dst wx wz wx.heap.size (cntsTo L n) (symsTo L n))) (fun i _ => 17 - (intOf i).toNat)
                case atStart => exact ⟨0, by decide, rfl, H3⟩
                case round =>
                  obtain ⟨n, hn, rfl, hC⟩ := hrel
                  by_cases hlt : n < 16
                  · have hn1 : (n : Int) + 1 ≤ 16 := by omega
                    have e1 : decide ((n : Int) + 1 ≤ 16) = true := by simp; omega
                    clear hn H3
                    go_wp2_with fail
                    go_loopw [11, 12] (fun z j wz => ∃ k : Nat, k ≤ 256 ∧ j = .int .i64 k ∧ z = .int .i64 ((pickTo L ((n : Int) + 1) k).length : Int) ∧ Hid (Dst wx wz wx.heap.size (cntsTo L n) (symsTo L n ++ pickTo L ((n : Int) + 1) k))) (fun _ j _ => 256 - (intOf j).toNat)
                    case atStart => exact ⟨0, by decide, rfl, rfl, hid (by rw [pickTo, List.append_nil]; exact hC.out)⟩
                    case round =>
                      obtain ⟨k, hk, rfl, rfl, hD⟩ := hrel
                      have hpl := pickTo_len L ((n : Int) + 1) k
                      by_cases hlk : k < 256
                      · have hk1 : (k : Int) < 256 := by omega
                        obtain ⟨cv, sv, h1, h2, h3, h4, h5⟩ := hD.out
                        have hcr := (HVX.out wr h5).at k (by rw [HLX.out]; omega)
                        obtain ⟨q0, q1, q2, q3⟩ := h1.cells
                        have HPK := hid (show pickTo L ((n : Int) + 1) (k + 1) = if L.getD k 0 = (n : Int) + 1 then pickTo L ((n : Int) + 1) k ++ [(k : Int)] else pickTo L ((n : Int) + 1) k from rfl)
                        have hLS := symsTo_len L n
                        by_cases hX : L.getD k 0 = (n : Int) + 1
                        · rw [if_pos hX] at HPK
                          rw [hX] at hcr
                          obtain ⟨aC, cC, rfl⟩ := h2.shape
                          obtain ⟨aS, cS, rfl⟩ := h3.shape
                          have HP := hid (show symsTo L n ++ pickTo L ((n : Int) + 1) (k + 1) = (symsTo L n ++ pickTo L ((n : Int) + 1) k) ++ [(k : Int)] from by rw [HPK.out, List.append_assoc])
                          have HL := hid (show (symsTo L n ++ pickTo L ((n : Int) + 1) k).length < 100000 from by rw [List.length_append]; omega)
                          have HO := hid h3
                          have HD := hid (fun v' w' ho hb hk hat => Dst.sym (w0 := wx) (C := wx.heap.size) (v' := v') (w' := w') (y := (k : Int)) (Nat.le_refl _) h1 h2 h3 h4 h5 ho hb hk hat)
                          have HPL := hid (show (pickTo L ((n : Int) + 1) (k + 1)).length = (pickTo L ((n : Int) + 1) k).length + 1 from by rw [HPK.out]; simp)
                          clear h1 h2 h3 h4 h5 hD hC hX HPK hLS
                          generalize symsTo L n ++ pickTo L ((n : Int) + 1) k = ZL at *
                          generalize (pickTo L ((n : Int) + 1) k).length = Y at *
                          go_wp2_with (first | (refine wpList_pushB wr rfl (.tmp 72) (.tmp 74) 22 rfl wx.heap.size 3 .i64 0 8 Tryz.underlying22 Tryz.info3 (.slice aS ZL.length cS) ZL (by rfl) HO.out (k : Int) (by go_simp) (by have := HL.out; omega) (by decide) ?_; rintro v' w' ho hb hk hat; obtain ⟨aV, cV, rfl⟩ := ho.shape; have HE := hid (HD.out _ w' ho hb hk hat); obtain ⟨s0, s1, s2, s3⟩ := HE.out.1.cells; clear ho hb hk hat) | fail)
                          go_roundw
                          case rel => exact ⟨k + 1, by omega, by go_num, by rw [HPL.out]; go_num, hid (by rw [HP.out]; have h := HE.out.2; rw [List.length_append, List.length_singleton] at h; exact h)⟩
                          case measure => simp [intOf]; omega
                        · rw [if_neg hX] at HPK
                          have hne : (L.getD k 0 == (n : Int) + 1) = false := by simpa using hX
                          have HDD := hid (show Dst wx wr wx.heap.size (cntsTo L n) (symsTo L n ++ pickTo L ((n : Int) + 1) (k + 1)) from by rw [HPK.out]; exact hD.out)
                          clear hX h1 h2 h3 h4 h5 hD
                          generalize L.getD k 0 = X at *
                          go_wp2_with fail
                          go_roundw
                          case rel => exact ⟨k + 1, by omega, by go_num, by rw [HPK.out], HDD⟩
                          case measure => simp [intOf]; omega
                      · obtain rfl : k = 256 := by omega
                        obtain ⟨cv, sv, h1, h2, h3, h4, h5⟩ := hD.out
                        obtain ⟨q0, q1, q2, q3⟩ := h1.cells
                        obtain ⟨aC, cC, rfl⟩ := h2.shape
                        obtain ⟨aS, cS, rfl⟩ := h3.shape
                        have HO := hid h2
                        have HLC := hid (cntsTo_len L n)
                        have HD := hid (fun v' w' ho hb hk hat => Dst.cnt (w0 := wx) (C := wx.heap.size) (v' := v') (w' := w') (y := ((pickTo L ((n : Int) + 1) 256).length : Int)) (Nat.le_refl _) h1 h2 h3 h4 h5 ho hb hk hat)
                        have HE1 := hid (show cntsTo L (n + 1) = cntsTo L n ++ [((pickTo L ((n : Int) + 1) 256).length : Int)] ∧ symsTo L (n + 1) = symsTo L n ++ pickTo L ((n : Int) + 1) 256 from ⟨rfl, rfl⟩)
                        clear h1 h2 h3 h4 h5 hD hC hk hlk
                        generalize symsTo L n ++ pickTo L ((n : Int) + 1) 256 = ZL at *
                        generalize cntsTo L n = ZC at *
                        generalize (pickTo L ((n : Int) + 1) 256).length = Y at *
                        go_wp2_with (first | (refine wpList_pushB wr rfl (.tmp 78) (.tmp 80) 22 rfl wx.heap.size 3 .i64 0 8 Tryz.underlying22 Tryz.info3 (.slice aC ZC.length cC) ZC (by rfl) HO.out (Y : Int) (by go_simp) (by have := HLC.out; omega) (by decide) ?_; rintro v' w' ho hb hk hat; obtain ⟨aV, cV, rfl⟩ := ho.shape; have HE := hid (HD.out _ w' ho hb hk hat); obtain ⟨s0, s1, s2, s3⟩ := HE.out.1.cells; clear ho hb hk hat) | fail)
                        go_roundw
                        case rel => exact ⟨n + 1, by omega, val_int (by omega), hid (by rw [HE1.out.1, HE1.out.2]; have h := HE.out.2; rw [List.length_append, List.length_singleton] at h; exact h)⟩
                        case measure => simp [intOf]; omega
                  · obtain rfl : n = 16 := by omega
                    obtain ⟨cv, sv, h1, h2, h3, h4, h5⟩ := hC.out
                    obtain ⟨q0, q1, q2, q3⟩ := h1.cells
                    have HBW := hid (show Below (w.heap.size + 1) (w.alloc (.cells #[.slice none 0 0, .slice none 0 0] 31)) wr from HBX.out.trans (h5.mono (by have := HBX.out.size; simp at this; omega)))
                    obtain ⟨r0, r1, r2, r3⟩ := (HN.out _ HBW.out).cells
                    obtain ⟨aC, cC, rfl⟩ := h2.shape
                    obtain ⟨aS, cS, rfl⟩ := h3.shape
                    have HLT4 := hid (show w.heap.size + 1 ≤ wx.heap.size from by have := HBX.out.size; simp at this; omega)
                    have HFIN := hid (show BO ((wr.setCell ⟨w.heap.size, 0, none⟩ (.slice aC (cntsTo L 16).length cC)).setCell ⟨w.heap.size, 1, none⟩ (.slice aS (symsTo L 16).length cS)) w.heap.size (.agg #[.slice aC (cntsTo L 16).length cC, .slice aS (symsTo L 16).length cS]) CL SL ∧ Below w.heap.size w ((wr.setCell ⟨w.heap.size, 0, none⟩ (.slice aC (cntsTo L 16).length cC)).setCell ⟨w.heap.size, 1, none⟩ (.slice aS (symsTo L 16).length cS)) from by
                      refine ⟨?_, ((HA0.out.trans (HBW.out.mono (by omega))).setCell (p := ⟨w.heap.size, 0, none⟩) (Nat.le_refl _) _).setCell (p := ⟨w.heap.size, 1, none⟩) (Nat.le_refl _) _⟩
                      have hl := HLT4.out
                      have o2 := (h2.setCell_below (a := ⟨w.heap.size, 0, none⟩) (by show w.heap.size < wx.heap.size; omega) (.slice aC (cntsTo L 16).length cC)).setCell_below (a := ⟨w.heap.size, 1, none⟩) (by show w.heap.size < wx.heap.size; omega) (.slice aS (symsTo L 16).length cS)
                      have o3 := (h3.setCell_below (a := ⟨w.heap.size, 0, none⟩) (by show w.heap.size < wx.heap.size; omega) (.slice aC (cntsTo L 16).length cC)).setCell_below (a := ⟨w.heap.size, 1, none⟩) (by show w.heap.size < wx.heap.size; omega) (.slice aS (symsTo L 16).length cS)
                      rw [HC2.out, HS2.out]
                      exact ⟨_, _, rfl, o2.mono (by omega), o3.mono (by omega), h4⟩)
                    clear h1 h2 h3 h4 h5 hC hn hlt
                    go_wp2_with fail
                    exact bodyPost_ret (v := .tuple #[.agg #[.slice aC (cntsTo L 16).length cC, .slice aS (symsTo L 16).length cS], .bool true]) (by simp [results, Tryz.results78, go_sem, r0, r1]) rfl ⟨_, rfl, HFIN.out.1, HFIN.out.2⟩
          | false =>
            have HBLD := hid (show bestL R = R from by rw [HBL.out, if_neg (of_decide_eq_false hD)])
            have HBL2 := HBLD
            clear hD HBL
            obtain ⟨wr, hwr⟩ : ∃ wr, wr = w2 := ⟨_, rfl⟩
            subst hwr
            go_wp2_with (first | (go_at_call 20; refine (spec_in _ _ _ _).mono ?_; rw [hin]; rintro e w5 ⟨rfl, rfl⟩) | fail)
            go_loop [8] (fun i => i = .int .i64 0) (fun _ => 0)
            case atStart => rfl
            case round =>
              obtain rfl := hrel
              have HOX := hid (show Own wr (w.heap.size + 1) 3 .i64 (.slice (some ⟨g, 0, none⟩) 257 c2) (bestL R) from by rw [HBLD.out]; have h := HO2.out; have e : w.heap.size + 1 = (w.alloc (.cells #[.slice none 0 0, .slice none 0 0] 31)).heap.size := (by simp); rw [e]; exact h)
              have HBX := hid HB2.out
              clear HO2 HB2
              have HLX := hid (show (bestL R).length = 257 from by rw [bestL_len, HLL.out])
              obtain ⟨wx, hwx⟩ : ∃ wx, wx = wr := ⟨_, rfl⟩
              subst hwx
              have H3 := hid (show Dst wx (wx.alloc (.cells #[.slice none 0 0, .slice none 0 0] 31)) wx.heap.size [] [] from ⟨_, _, Two.new wx _ _ 31, Own.nil _ 3 .i64 _ (by simp), Own.nil _ 3 .i64 _ (by simp), fun g hg => (by cases hg), (Below.refl _ _).alloc (Nat.le_refl _) _⟩)
              have HVX := hid (show ∀ wz, Below wx.heap.size wx wz → Own wz (w.heap.size + 1) 3 .i64 (.slice (some ⟨g, 0, none⟩) 257 c2) (bestL R) from fun wz h => HOX.out.below h)
              clear HOX HBL2 HBLD
              generalize bestL R = L at *
              go_wp2_with fail
              go_loopw [10] (fun i wz => ∃ n : Nat, n ≤ 16 ∧ i = .int .i64 ((n : Int) + 1) ∧ Hid (Dst wx wz wx.heap.size (cntsTo L n) (symsTo L n))) (fun i _ => 17 - (intOf i).toNat)
              case atStart => exact ⟨0, by decide, rfl, H3⟩
              case round =>
                obtain ⟨n, hn, rfl, hC⟩ := hrel
                by_cases hlt : n < 16
                · have hn1 : (n : Int) + 1 ≤ 16 := by omega
                  have e1 : decide ((n : Int) + 1 ≤ 16) = true := by simp; omega
                  clear hn H3
                  go_wp2_with fail
                  go_loopw [11, 12] (fun z j wz => ∃ k : Nat, k ≤ 256 ∧ j = .int .i64 k ∧ z = .int .i64 ((pickTo L ((n : Int) + 1) k).length : Int) ∧ Hid (Dst wx wz wx.heap.size (cntsTo L n) (symsTo L n ++ pickTo L ((n : Int) + 1) k))) (fun _ j _ => 256 - (intOf j).toNat)
                  case atStart => exact ⟨0, by decide, rfl, rfl, hid (by rw [pickTo, List.append_nil]; exact hC.out)⟩
                  case round =>
                    obtain ⟨k, hk, rfl, rfl, hD⟩ := hrel
                    have hpl := pickTo_len L ((n : Int) + 1) k
                    by_cases hlk : k < 256
                    · have hk1 : (k : Int) < 256 := by omega
                      obtain ⟨cv, sv, h1, h2, h3, h4, h5⟩ := hD.out
                      have hcr := (HVX.out wr h5).at k (by rw [HLX.out]; omega)
                      obtain ⟨q0, q1, q2, q3⟩ := h1.cells
                      have HPK := hid (show pickTo L ((n : Int) + 1) (k + 1) = if L.getD k 0 = (n : Int) + 1 then pickTo L ((n : Int) + 1) k ++ [(k : Int)] else pickTo L ((n : Int) + 1) k from rfl)
                      have hLS := symsTo_len L n
                      by_cases hX : L.getD k 0 = (n : Int) + 1
                      · rw [if_pos hX] at HPK
                        rw [hX] at hcr
                        obtain ⟨aC, cC, rfl⟩ := h2.shape
                        obtain ⟨aS, cS, rfl⟩ := h3.shape
                        have HP := hid (show symsTo L n ++ pickTo L ((n : Int) + 1) (k + 1) = (symsTo L n ++ pickTo L ((n : Int) + 1) k) ++ [(k : Int)] from by rw [HPK.out, List.append_assoc])
                        have HL := hid (show (symsTo L n ++ pickTo L ((n : Int) + 1) k).length < 100000 from by rw [List.length_append]; omega)
                        have HO := hid h3
                        have HD := hid (fun v' w' ho hb hk hat => Dst.sym (w0 := wx) (C := wx.heap.size) (v' := v') (w' := w') (y := (k : Int)) (Nat.le_refl _) h1 h2 h3 h4 h5 ho hb hk hat)
                        have HPL := hid (show (pickTo L ((n : Int) + 1) (k + 1)).length = (pickTo L ((n : Int) + 1) k).length + 1 from by rw [HPK.out]; simp)
                        clear h1 h2 h3 h4 h5 hD hC hX HPK hLS
                        generalize symsTo L n ++ pickTo L ((n : Int) + 1) k = ZL at *
                        generalize (pickTo L ((n : Int) + 1) k).length = Y at *
                        go_wp2_with (first | (refine wpList_pushB wr rfl (.tmp 72) (.tmp 74) 22 rfl wx.heap.size 3 .i64 0 8 Tryz.underlying22 Tryz.info3 (.slice aS ZL.length cS) ZL (by rfl) HO.out (k : Int) (by go_simp) (by have := HL.out; omega) (by decide) ?_; rintro v' w' ho hb hk hat; obtain ⟨aV, cV, rfl⟩ := ho.shape; have HE := hid (HD.out _ w' ho hb hk hat); obtain ⟨s0, s1, s2, s3⟩ := HE.out.1.cells; clear ho hb hk hat) | fail)
                        go_roundw
                        case rel => exact ⟨k + 1, by omega, by go_num, by rw [HPL.out]; go_num, hid (by rw [HP.out]; have h := HE.out.2; rw [List.length_append, List.length_singleton] at h; exact h)⟩
                        case measure => simp [intOf]; omega
                      · rw [if_neg hX] at HPK
                        have hne : (L.getD k 0 == (n : Int) + 1) = false := by simpa using hX
                        have HDD := hid (show Dst wx wr wx.heap.size (cntsTo L n) (symsTo L n ++ pickTo L ((n : Int) + 1) (k + 1)) from by rw [HPK.out]; exact hD.out)
                        clear hX h1 h2 h3 h4 h5 hD
                        generalize L.getD k 0 = X at *
                        go_wp2_with fail
                        go_roundw
                        case rel => exact ⟨k + 1, by omega, by go_num, by rw [HPK.out], HDD⟩
                        case measure => simp [intOf]; omega
                    · obtain rfl : k = 256 := by omega
                      obtain ⟨cv, sv, h1, h2, h3, h4, h5⟩ := hD.out
                      obtain ⟨q0, q1, q2, q3⟩ := h1.cells
                      obtain ⟨aC, cC, rfl⟩ := h2.shape
                      obtain ⟨aS, cS, rfl⟩ := h3.shape
                      have HO := hid h2
                      have HLC := hid (cntsTo_len L n)
                      have HD := hid (fun v' w' ho hb hk hat => Dst.cnt (w0 := wx) (C := wx.heap.size) (v' := v') (w' := w') (y := ((pickTo L ((n : Int) + 1) 256).length : Int)) (Nat.le_refl _) h1 h2 h3 h4 h5 ho hb hk hat)
                      have HE1 := hid (show cntsTo L (n + 1) = cntsTo L n ++ [((pickTo L ((n : Int) + 1) 256).length : Int)] ∧ symsTo L (n + 1) = symsTo L n ++ pickTo L ((n : Int) + 1) 256 from ⟨rfl, rfl⟩)
                      clear h1 h2 h3 h4 h5 hD hC hk hlk
                      generalize symsTo L n ++ pickTo L ((n : Int) + 1) 256 = ZL at *
                      generalize cntsTo L n = ZC at *
                      generalize (pickTo L ((n : Int) + 1) 256).length = Y at *
                      go_wp2_with (first | (refine wpList_pushB wr rfl (.tmp 78) (.tmp 80) 22 rfl wx.heap.size 3 .i64 0 8 Tryz.underlying22 Tryz.info3 (.slice aC ZC.length cC) ZC (by rfl) HO.out (Y : Int) (by go_simp) (by have := HLC.out; omega) (by decide) ?_; rintro v' w' ho hb hk hat; obtain ⟨aV, cV, rfl⟩ := ho.shape; have HE := hid (HD.out _ w' ho hb hk hat); obtain ⟨s0, s1, s2, s3⟩ := HE.out.1.cells; clear ho hb hk hat) | fail)
                      go_roundw
                      case rel => exact ⟨n + 1, by omega, val_int (by omega), hid (by rw [HE1.out.1, HE1.out.2]; have h := HE.out.2; rw [List.length_append, List.length_singleton] at h; exact h)⟩
                      case measure => simp [intOf]; omega
                · obtain rfl : n = 16 := by omega
                  obtain ⟨cv, sv, h1, h2, h3, h4, h5⟩ := hC.out
                  obtain ⟨q0, q1, q2, q3⟩ := h1.cells
                  have HBW := hid (show Below (w.heap.size + 1) (w.alloc (.cells #[.slice none 0 0, .slice none 0 0] 31)) wr from HBX.out.trans (h5.mono (by have := HBX.out.size; simp at this; omega)))
                  obtain ⟨r0, r1, r2, r3⟩ := (HN.out _ HBW.out).cells
                  obtain ⟨aC, cC, rfl⟩ := h2.shape
                  obtain ⟨aS, cS, rfl⟩ := h3.shape
                  have HLT4 := hid (show w.heap.size + 1 ≤ wx.heap.size from by have := HBX.out.size; simp at this; omega)
                  have HFIN := hid (show BO ((wr.setCell ⟨w.heap.size, 0, none⟩ (.slice aC (cntsTo L 16).length cC)).setCell ⟨w.heap.size, 1, none⟩ (.slice aS (symsTo L 16).length cS)) w.heap.size (.agg #[.slice aC (cntsTo L 16).length cC, .slice aS (symsTo L 16).length cS]) CL SL ∧ Below w.heap.size w ((wr.setCell ⟨w.heap.size, 0, none⟩ (.slice aC (cntsTo L 16).length cC)).setCell ⟨w.heap.size, 1, none⟩ (.slice aS (symsTo L 16).length cS)) from by
                    refine ⟨?_, ((HA0.out.trans (HBW.out.mono (by omega))).setCell (p := ⟨w.heap.size, 0, none⟩) (Nat.le_refl _) _).setCell (p := ⟨w.heap.size, 1, none⟩) (Nat.le_refl _) _⟩
                    have hl := HLT4.out
                    have o2 := (h2.setCell_below (a := ⟨w.heap.size, 0, none⟩) (by show w.heap.size < wx.heap.size; omega) (.slice aC (cntsTo L 16).length cC)).setCell_below (a := ⟨w.heap.size, 1, none⟩) (by show w.heap.size < wx.heap.size; omega) (.slice aS (symsTo L 16).length cS)
                    have o3 := (h3.setCell_below (a := ⟨w.heap.size, 0, none⟩) (by show w.heap.size < wx.heap.size; omega) (.slice aC (cntsTo L 16).length cC)).setCell_below (a := ⟨w.heap.size, 1, none⟩) (by show w.heap.size < wx.heap.size; omega) (.slice aS (symsTo L 16).length cS)
                    rw [HC2.out, HS2.out]
                    exact ⟨_, _, rfl, o2.mono (by omega), o3.mono (by omega), h4⟩)
                  clear h1 h2 h3 h4 h5 hC hn hlt
                  go_wp2_with fail
                  exact bodyPost_ret (v := .tuple #[.agg #[.slice aC (cntsTo L 16).length cC, .slice aS (symsTo L 16).length cS], .bool true]) (by simp [results, Tryz.results78, go_sem, r0, r1]) rfl ⟨_, rfl, HFIN.out.1, HFIN.out.2⟩
        · have hBf : BB = false := by rw [HBB.out]; exact decide_eq_false hb
          subst hBf
          have hC2 : CL = [] := by rw [HC.out]; rfl
          have hS2 : SL = [] := by rw [HS.out]; rfl
          subst hC2 hS2
          have hin := in_no (show ¬ ((1 : Int) ≤ (N : Int) ∧ (N : Int) ≤ 255) from by omega)
          obtain ⟨q0, q1, q2, q3⟩ := (HN.out _ HB2.out).cells
          clear HC HS HBB hb
          go_wp2_with (first | (go_at_call 20; refine (spec_in _ _ _ _).mono ?_; rw [hin]; rintro e w5 ⟨rfl, rfl⟩) | fail)
          exact bodyPost_ret (v := .tuple #[.agg #[.slice none 0 0, .slice none 0 0], .bool false]) (by simp [results, Tryz.results78, go_sem, q0, q1]) rfl ⟨_, rfl, (HN2.out _ HB2.out).1, (HN2.out _ HB2.out).2⟩
end Go.Proofs.YtnnakmgngkpghaaGreat
