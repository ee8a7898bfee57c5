/- The contract of newCodeBook: the keys of all symbols, in a row and in a map. -/
import Derived.Test.YtnnakmgngkpghaaKeys
namespace Go.Proofs.Ytnnakmgngkpghaa
open Go.RowKit Go.Maps
set_option linter.unusedVariables false

theorem zero76 : Try.zeroCells120 = #[.map none] ++ Array.replicate 512 (.int .i64 0) := by kernel_rfl

theorem go_snoc (ss : List Int) (K : List (Nat × Int)) (x : Nat × Int) (j : Nat) : ∀ t, t ≤ K.length → bookTo.go ss (K ++ [x]) t j = bookTo.go ss K t j
  | 0, _ => rfl
  | t + 1, h => by
    rw [bookTo.go, bookTo.go, go_snoc ss K x j t (by omega)]
    have : (K ++ [x]).getD t (0, 0) = K.getD t (0, 0) := by simp only [List.getD]; rw [List.getElem?_append_left (by omega)]
    rw [this]
theorem bookTo_snoc (ss : List Int) (K : List (Nat × Int)) (x : Nat × Int) (j : Nat) : bookTo ss (K ++ [x]) j = if (j : Int) = ss.getD K.length 0 then x else bookTo ss K j := by
  rw [bookTo, List.length_append]
  show bookTo.go ss (K ++ [x]) (K.length + 1) j = _
  rw [bookTo.go, go_snoc ss K x j _ (Nat.le_refl _)]
  have : (K ++ [x]).getD K.length (0, 0) = x := by simp
  rw [this]
  rfl

/-- The map behind the keys. -/
def mapGo (ss : List Int) (K : List (Nat × Int)) : Nat → DataW Unit
  | 0 => .map []
  | t + 1 => (mapGo ss K t).put (kl72 (K.getD t (0, 0)).1 (K.getD t (0, 0)).2) (.lit (.int .i64 (ss.getD t 0)))
def mapTo (ss : List Int) (K : List (Nat × Int)) : DataW Unit := mapGo ss K K.length
theorem mapGo_snoc (ss : List Int) (K : List (Nat × Int)) (x : Nat × Int) : ∀ t, t ≤ K.length → mapGo ss (K ++ [x]) t = mapGo ss K t
  | 0, _ => rfl
  | t + 1, h => by
    have : (K ++ [x]).getD t (0, 0) = K.getD t (0, 0) := by simp only [List.getD]; rw [List.getElem?_append_left (by omega)]
    rw [mapGo, mapGo, mapGo_snoc ss K x t (by omega), this]
theorem mapTo_snoc (ss : List Int) (K : List (Nat × Int)) (x : Nat × Int) : mapTo ss (K ++ [x]) = (mapTo ss K).put (kl72 x.1 x.2) (.lit (.int .i64 (ss.getD K.length 0))) := by
  rw [mapTo, List.length_append]
  show mapGo ss (K ++ [x]) (K.length + 1) = _
  rw [mapGo, mapGo_snoc ss K x _ (Nat.le_refl _)]
  have : (K ++ [x]).getD K.length (0, 0) = x := by simp
  rw [this]
  rfl

/-- Block C holds the book of the keys K, its map at block M. -/
def BookAt (w : World) (C M : Nat) (ss : List Int) (K : List (Nat × Int)) : Prop :=
  (∃ arr : Array Value, Arr w C arr 120 ∧ arr.size = 513 ∧ arr[0]? = some (.map (some M)) ∧ ∀ j, j < 256 → arr[1 + j * 2]? = some (.int .i64 (bookTo ss K j).1) ∧ arr[1 + j * 2 + 1]? = some (.int .i64 (bookTo ss K j).2)) ∧
  w.ownsMap Try.prog 117 (plainElem (H := Unit) Try.prog 3) M K.length (mapTo ss K)

theorem BookAt.below {w w' : World} {C M : Nat} {ss : List Int} {K : List (Nat × Int)} (h : BookAt w C M ss K) (hb : Below w.heap.size w w') : BookAt w' C M ss K := by
  obtain ⟨⟨arr, h1, h2⟩, h3⟩ := h
  refine ⟨⟨arr, h1.below hb h1.lt, h2⟩, ?_⟩
  have hlt := h3.lt
  obtain ⟨es, clock, hh, r⟩ := h3
  exact ⟨es, clock, (hb.block M hlt).trans hh, r⟩

theorem BookAt.drew {w : World} {C M : Nat} {ss : List Int} {K : List (Nat × Int)} (h : BookAt w C M ss K) : BookAt w.drew C M ss K := h

/-- The state of the walk. -/
def BS (w wr : World) (s0 s1 : Value) (ss : List Int) (K : List (Nat × Int)) : Prop :=
  Two wr w.heap.size s0 s1 33 ∧ BookAt wr (w.heap.size + 1 + 1) (w.heap.size + 1) ss K ∧ Below w.heap.size w wr

theorem book_start (w : World) (s0 s1 : Value) (ss : List Int) :
    BS w (((w.alloc (.cells #[s0, s1] 33)).alloc (.map #[] 0)).alloc (.cells (Try.zeroCells120.setIfInBounds 0 (.map (some (w.heap.size + 1)))) 120)) s0 s1 ss [] := by
  have b1 := (Below.refl w.heap.size w).alloc (Nat.le_refl _) (.cells #[s0, s1] 33)
  have b2 := b1.alloc (show w.heap.size ≤ (w.alloc (.cells #[s0, s1] 33)).heap.size by simp) (.map #[] 0)
  have b3 := b2.alloc (show w.heap.size ≤ ((w.alloc (.cells #[s0, s1] 33)).alloc (.map #[] 0)).heap.size by simp; omega) (.cells (Try.zeroCells120.setIfInBounds 0 (.map (some (w.heap.size + 1)))) 120)
  refine ⟨((Two.new w s0 s1 33).alloc _).alloc _, ⟨⟨Try.zeroCells120.setIfInBounds 0 (.map (some (w.heap.size + 1))), ?_, ?_, ?_, ?_⟩, ?_⟩, b3⟩
  · have := Arr.new ((w.alloc (.cells #[s0, s1] 33)).alloc (.map #[] 0)) (Try.zeroCells120.setIfInBounds 0 (.map (some (w.heap.size + 1)))) 120
    simp only [World.size_alloc] at this
    exact this
  · rw [zero76]; simp
  · rw [zero76]; simp
  · intro j hj
    rw [zero76]
    refine ⟨?_, ?_⟩
    · rw [Array.getElem?_setIfInBounds_ne (by omega), Array.getElem?_append_right (by simp), Array.getElem?_replicate]
      simp [bookTo, bookTo.go]
      omega
    · rw [Array.getElem?_setIfInBounds_ne (by omega), Array.getElem?_append_right (by simp), Array.getElem?_replicate]
      simp [bookTo, bookTo.go]
      omega
  · have := (World.ownsMap_made (H := Unit) (w.alloc (.cells #[s0, s1] 33)) Try.prog 117 (plainElem Try.prog 3)).alloc (.cells (Try.zeroCells120.setIfInBounds 0 (.map (some (w.heap.size + 1)))) 120)
    simp only [World.size_alloc] at this
    exact this

theorem grown_below {w w' : World} {B b : Nat} (h : w.drew.grownBy w' (some b)) (hb : B ≤ b) (hB : B ≤ w.heap.size) : Below B w w' :=
  ⟨h.os, h.tape, h.output, h.size, fun k hk => h.block k (Nat.lt_of_lt_of_le hk hB) (fun e => by have := Option.some.inj e; omega)⟩
theorem okTo_le (cs : List Int) : ∀ n k, k ≤ n → okTo cs n = true → okTo cs k = true
  | 0, k, hk, h => by rw [show k = 0 by omega]; rfl
  | n + 1, k, hk, h => by
    by_cases e : k = n + 1
    · rw [e]; exact h
    · simp only [okTo, Bool.and_eq_true] at h
      exact okTo_le cs n k (by omega) h.1
theorem told_mono (cs : List Int) (h : okTo cs 16 = true) : ∀ d i, i + d = 16 → told cs i ≤ told cs 16
  | 0, i, e => by rw [show i = 16 by omega]; exact Int.le_refl _
  | d + 1, i, e => by
    have h1 := told_mono cs h d (i + 1) (by omega)
    have hx := okTo_at cs 16 h i (by omega)
    rw [told] at h1
    omega
theorem told_le (cs : List Int) (h : okTo cs 16 = true) (i : Nat) (hi : i < 16) (N : Nat) (hN : cs.getD i 0 = N) : told cs i + N ≤ told cs 16 := by
  have := told_mono cs h (16 - (i + 1)) (i + 1) (by omega)
  rw [told, hN] at this
  exact this

theorem apart_in (xs : List Int) : ∀ n, apartTo xs n = true → ∀ p, p < n → 0 ≤ xs.getD p 0 ∧ xs.getD p 0 ≤ 255
  | n + 1, h, p, hp => by
    simp only [apartTo, Bool.and_eq_true] at h
    by_cases e : p = n
    · subst e; exact (inB_iff _).1 h.2.1
    · exact apart_in xs n h.1 p (by omega)

theorem book_step {w w2 : World} {s0 s1 : Value} {ss : List Int} {K : List (Nat × Int)} {x : Nat × Int} {y : Int} {arr : Array Value} {j : Nat} (hj : j < 256) (hy : y = (x.1 : Int))
    (hT : Two w2 w.heap.size s0 s1 33) (hA : Arr w2 (w.heap.size + 1 + 1) arr 120) (hsz : arr.size = 513) (h0 : arr[0]? = some (.map (some (w.heap.size + 1))))
    (hs : ∀ j, j < 256 → arr[1 + j * 2]? = some (.int .i64 (bookTo ss K j).1) ∧ arr[1 + j * 2 + 1]? = some (.int .i64 (bookTo ss K j).2))
    (hM : w2.ownsMap Try.prog 117 (plainElem (H := Unit) Try.prog 3) (w.heap.size + 1) (K.length + 1) ((mapTo ss K).put (kl72 y x.2) (.lit (.int .i64 (j : Int)))))
    (h1 : ∀ x q, bookTo ss (K ++ [x]) q = if (q : Int) = (j : Int) then x else bookTo ss K q) (h2 : ∀ x : Nat × Int, mapTo ss (K ++ [x]) = (mapTo ss K).put (kl72 x.1 x.2) (.lit (.int .i64 (j : Int)))) (hB : Below w.heap.size w w2) :
    BS w ((w2.drew.setCell ⟨w.heap.size + 1 + 1, 1 + j * 2, none⟩ (.int .i64 y)).setCell ⟨w.heap.size + 1 + 1, 1 + j * 2 + 1, none⟩ (.int .i64 x.2)) s0 s1 ss (K ++ [x]) := by
  subst hy
  have hA' : Arr w2.drew (w.heap.size + 1 + 1) arr 120 := hA
  have hT' : Two w2.drew w.heap.size s0 s1 33 := hT
  refine ⟨(hT'.other (by omega) _).other (by omega) _, ⟨⟨_, (hA'.set _ _).set _ _, by simp [hsz], ?_, fun q hq => ?_⟩, ?_⟩, (hB.drew.setCell (p := ⟨w.heap.size + 1 + 1, 1 + j * 2, none⟩) (by show w.heap.size ≤ w.heap.size + 1 + 1; omega) _).setCell (p := ⟨w.heap.size + 1 + 1, 1 + j * 2 + 1, none⟩) (by show w.heap.size ≤ w.heap.size + 1 + 1; omega) _⟩
  · rw [Array.getElem?_setIfInBounds_ne (by omega), Array.getElem?_setIfInBounds_ne (by omega)]
    exact h0
  · rw [h1 x q]
    by_cases e : q = j
    · subst e
      rw [if_pos rfl, Array.getElem?_setIfInBounds_ne (by omega)]
      refine ⟨?_, ?_⟩
      · rw [Array.getElem?_setIfInBounds_self_of_lt (by omega)]
      · rw [Array.getElem?_setIfInBounds_self_of_lt (by simp; omega)]
    · rw [if_neg (by omega), Array.getElem?_setIfInBounds_ne (by omega), Array.getElem?_setIfInBounds_ne (by omega), Array.getElem?_setIfInBounds_ne (by omega), Array.getElem?_setIfInBounds_ne (by omega)]
      exact hs q hq
  · rw [h2 x, List.length_append]
    have g1 := (World.ownsMap.drew hM)
    obtain ⟨es, clock, hh, r⟩ := g1
    refine ⟨es, clock, ?_, r⟩
    rw [Below.heap_setCell _ _ _ _ (show w.heap.size + 1 ≠ w.heap.size + 1 + 1 by omega), Below.heap_setCell _ _ _ _ (show w.heap.size + 1 ≠ w.heap.size + 1 + 1 by omega)]
    exact hh

set_option maxRecDepth 100000 in
set_option maxHeartbeats 6400000 in
theorem book_any (v : Value) (cs ss : List Int) (w : World) (hr : rightC cs ss = true) (hv : CV w v cs ss) :
    Calls Try.prog 64 #[v] w fun e w' => ∃ C M, e = .returned (.pointer (some ⟨C, 0, none⟩)) ∧ BookAt w' C M ss (keysTo cs 16) ∧ Below w.heap.size w w' := by
  obtain ⟨a0, c0, a1, c1, rfl, u0, u1⟩ := hv
  obtain ⟨⟨hl, hok, ht, hroom⟩, htold, hap⟩ := (right_iff cs ss).1 hr
  have HST := hid (book_start w (.slice a0 cs.length c0) (.slice a1 ss.length c1) ss)
  have HU0 := hid u0
  have HU1 := hid u1
  have HOK := hid hok
  have HAP := hid hap
  have hmm := @run_makeMap Try.prog
  obtain ⟨S, hS⟩ : ∃ S : Nat, S = ss.length := ⟨_, rfl⟩
  rw [← hS] at htold HAP HST HU1
  rw [hl] at HST HU0
  rw [hl, ← hS]
  clear u0 u1 hr hS hap hok
  go_enter Try.func64, Try.ntmps64
  go_wp2_with fail
  clear hmm
  generalize ((w.alloc _).alloc _).alloc _ = wa at *
  go_loopw [4, 5, 15] (fun c a i wr => ∃ k : Nat, k ≤ 16 ∧ i = .int .i64 k ∧ c = .int .i64 (sc cs k) ∧ a = .int .i64 ((keysTo cs k).length) ∧ Hid (BS w wr (.slice a0 16 c0) (.slice a1 S c1) ss (keysTo cs k))) (fun _ _ i _ => 16 - (intOf i).toNat)
  case atStart => exact ⟨0, by omega, rfl, rfl, rfl, HST.out⟩
  case round =>
    obtain ⟨i, hi, rfl, rfl, rfl, hbs⟩ := hrel
    by_cases hlt : i < 16
    · obtain ⟨b, off, rfl, hc⟩ := HU0.out.2 i hlt
      have hcr : wr.cell? ⟨b, off + i, none⟩ = some (.int .i64 (cs.getD i 0)) := (hbs.out.2.2.cell (p := ⟨b, off + i, none⟩) (World.block_lt_of_cell? w _ hc)).trans hc
      have hx := okTo_at cs 16 HOK.out i hlt
      obtain ⟨N, hN⟩ := Int.eq_ofNat_of_zero_le hx.1
      rw [hN] at hcr hx
      have hlt' : (i : Int) < 16 := by omega
      have HFULL := hid (keysAt_full cs i N (by omega))
      have HSC := hid (show sc cs (i + 1) = (sc cs i + N) * 2 by rw [sc, hN])
      have hs0 := sc_nonneg cs HOK.out i (by omega)
      have hs1 := (sc_lt cs HOK.out hroom i hlt).2
      rw [hN] at hs1
      have HBS := hid (show BS w wr _ _ ss (keysAt cs i 0) by rw [keysAt_zero]; exact hbs.out)
      have HLEN := hid (show (keysTo cs i).length = (keysAt cs i 0).length by rw [keysAt_zero])
      have HKL := hid (fun k (hk : k ≤ N) => (show ((keysAt cs i k).length : Int) = told cs i + k by
        have := keysTo_length cs i (okTo_le cs 16 i (by omega) HOK.out)
        rw [keysAt, List.length_append, rowKeys_length]; omega))
      have HTS := hid (told_le cs HOK.out i hlt N hN)
      clear hc hN
      rw [HLEN.out]
      go_wp2_with fail
      go_loopw [4, 5, 21] (fun c a m wq => ∃ k : Nat, k ≤ N ∧ m = .int .i64 k ∧ c = .int .i64 (sc cs i + k) ∧ a = .int .i64 ((keysAt cs i k).length) ∧ Hid (BS w wq (.slice (some ⟨b, off, none⟩) 16 c0) (.slice a1 S c1) ss (keysAt cs i k))) (fun _ _ m _ => N - (intOf m).toNat)
      case atStart => exact ⟨0, by omega, rfl, by simp, rfl, HBS.out⟩
      case round =>
        obtain ⟨k, hk, rfl, rfl, rfl, hbs2⟩ := hrel
        by_cases hkN : k < N
        · have hkl := HKL.out k hk
          have HK1 := hid (keysAt_succ cs i k)
          have hpS : (keysAt cs i k).length < S := by have := HTS.out; omega
          obtain ⟨b1, off1, rfl, hc1⟩ := HU1.out.2 _ hpS
          have hc2 : wr.cell? ⟨b1, off1 + (keysAt cs i k).length, none⟩ = some (.int .i64 (ss.getD (keysAt cs i k).length 0)) := (hbs2.out.2.2.cell (p := ⟨b1, off1 + (keysAt cs i k).length, none⟩) (World.block_lt_of_cell? w _ hc1)).trans hc1
          have hX := apart_in ss S HAP.out _ hpS
          have HBS1 := hid (fun x => bookTo_snoc ss (keysAt cs i k) x)
          have HMS1 := hid (fun x => mapTo_snoc ss (keysAt cs i k) x)
          obtain ⟨j, hj⟩ := Int.eq_ofNat_of_zero_le hX.1
          rw [hj] at hc2 hX HBS1 HMS1
          have hkN' : (k : Int) < (N : Int) := by omega
          obtain ⟨hT, hBk, hB⟩ := hbs2.out
          clear hj hbs2
          generalize keysAt cs i k = K at *
          generalize sc cs i = Sc at *
          obtain ⟨⟨arr, harr, hsz, harr0, harrs⟩, hmap⟩ := hBk
          have wfa : (Lit.int .i64 ((i : Int) + 1)).wf = true := WalkArith.wf_i64 (by omega)
          have wfb : (Lit.int .i64 (Sc + (k : Int))).wf = true := WalkArith.wf_i64 (by omega)
          have wfx : (Lit.int .i64 (j : Int)).wf = true := WalkArith.wf_i64 (by omega)
          obtain ⟨w2, hrun, hmap2, hg2⟩ := World.ownsMap.update (t := 115) (hmap.alloc (.cells #[.int .i64 ((i : Int) + 1), .int .i64 (Sc + (k : Int))] 117)).drew law72 Try.underlying115 (by unfold maxLen; omega) (key72 wr _ _ wfa wfb) (plainElem_int Try.underlying3 wfx)
          have HK := hid (Two.new wr (.int .i64 ((i : Int) + 1)) (.int .i64 (Sc + (k : Int))) 117)
          have HT1 := hid (hT.alloc (.cells #[.int .i64 ((i : Int) + 1), .int .i64 (Sc + (k : Int))] 117))
          have hBa := (Below.refl wr.heap.size wr).alloc (Nat.le_refl _) (.cells #[.int .i64 ((i : Int) + 1), .int .i64 (Sc + (k : Int))] 117)
          have HA1 := hid (harr.below hBa harr.lt)
          have hc3 : (wr.alloc (.cells #[.int .i64 ((i : Int) + 1), .int .i64 (Sc + (k : Int))] 117)).cell? ⟨b1, off1 + K.length, none⟩ = some (.int .i64 (j : Int)) := (hBa.cell (p := ⟨b1, off1 + K.length, none⟩) (World.block_lt_of_cell? wr _ hc2)).trans hc2
          have HB1 := hid (hB.trans (hBa.mono hB.size))
          have HTlt := hT.lt
          have hmlt : w.heap.size + 1 < wr.heap.size := hmap.lt
          have hb1 : b1 < w.heap.size := World.block_lt_of_cell? w _ hc1
          clear hT hmap harr hB hBa hkl hc1
          go_wp2_with fail
          generalize hw1 : wr.alloc (.cells #[.int .i64 ((i : Int) + 1), .int .i64 (Sc + (k : Int))] 117) = w1 at *
          obtain ⟨q1, q2, q3, q4⟩ := HT1.out.cells
          obtain ⟨q5, q6, q7, q8⟩ := HK.out.cells
          have q9 : w1.cell? ⟨w.heap.size + 1 + 1, 0, none⟩ = some (.map (some (w.heap.size + 1))) := (HA1.out.cell 0).trans harr0
          have hpS' : (K.length : Int) < (S : Int) := by omega
          go_region
          have hDne : wr.heap.size ≠ w.heap.size + 1 := by omega
          have T2 : Two w2 w.heap.size _ _ 33 := (hg2.block _ HT1.out.lt (fun e => by have := Option.some.inj e; omega)).trans HT1.out
          have K2 : Two w2 wr.heap.size _ _ 117 := (hg2.block _ HK.out.lt (fun e => hDne (Option.some.inj e))).trans HK.out
          have A2 : Arr w2 (w.heap.size + 1 + 1) arr 120 := (hg2.block _ HA1.out.lt (fun e => by have := Option.some.inj e; omega)).trans HA1.out
          have hc4 : w2.cell? ⟨b1, off1 + K.length, none⟩ = some (.int .i64 (j : Int)) := hg2.cell hc3 (fun e => by have h2 : b1 = w.heap.size + 1 := Option.some.inj e; omega)
          have HB2 := hid (HB1.out.trans (grown_below hg2 (by omega) HB1.out.size))
          have HM2 := hid hmap2
          have HHT := hid T2
          have HHA := hid A2
          obtain ⟨p1, p2, p3, p4⟩ := T2.cells
          obtain ⟨p5, p6, p7, p8⟩ := K2.cells
          obtain ⟨e0, e1⟩ := harrs j (by omega)
          have p9 : w2.cell? ⟨w.heap.size + 1 + 1, 1 + j * 2, none⟩ = _ := (A2.cell _).trans e0
          have p10 : w2.cell? ⟨w.heap.size + 1 + 1, 1 + j * 2 + 1, none⟩ = _ := (A2.cell _).trans e1
          have p11 := A2.free (1 + j * 2)
          have p12 := A2.free (1 + j * 2 + 1)
          have hj6 : (j : Int) < 256 := by omega
          clear q1 q2 q3 q4 q5 q6 q7 q8 q9 hrun hmap2 hg2 T2 K2 A2 e0 e1
          go_wp2_with fail
          go_region
          all_goals
            go_wp2
            go_roundw
            case rel =>
              refine ⟨k + 1, by omega, by go_num, by go_num, ?_, ?_⟩
              · rw [HK1.out, List.length_append]; go_num
              · rw [HK1.out]
                exact book_step (x := (i + 1, Sc + (k : Int))) (by omega) (by simp) HHT.out HHA.out hsz harr0 harrs HM2.out HBS1.out HMS1.out HB2.out
            case measure => simp [intOf]; omega
        · obtain rfl : k = N := by omega
          have HF2 := hid (show BS w wr _ _ ss (keysTo cs (i + 1)) by rw [← HFULL.out]; exact hbs2.out)
          have HL2 := hid (show (keysAt cs i k).length = (keysTo cs (i + 1)).length by rw [HFULL.out])
          clear hbs2
          generalize sc cs i = Sc at *
          rw [HL2.out]
          go_wp2
          go_roundw
          case rel => exact ⟨i + 1, by omega, by go_num, val_int HSC.out.symm, rfl, HF2.out⟩
          case measure => simp [intOf]; omega
    · obtain rfl : i = 16 := by omega
      go_wp2
      go_ret
      exact ⟨_, _, rfl, hbs.out.2.1, hbs.out.2.2⟩
end Go.Proofs.Ytnnakmgngkpghaa
