/- A heap of trees: its methods through the interface; down. -/
import Derived.Test.YtmdmolofiblbmaaHm
import Derived.Deep.CutRange
namespace Go.Proofs.Ytmdmolofiblbmaa
open Go.RowKit
set_option linter.unusedVariables false

theorem run_loadk {α : Type} (a : Addr) (v : Value) (w : World) (k : Value → Sem α) (h : w.cell? a = some v) : (Sem.load .plain a k).run Try.prog w = (k v).run Try.prog w := by
  rw [Sem.run]
  rw [h]
theorem method_less0 (a : Addr) (w : World) : (method 231 88 (.pointer (some a)) "Less").run Try.prog w = (Sem.load .plain a (fun v => .pure ((91 : FuncId), v))).run Try.prog w := by kernel_rfl
theorem method_less (a : Addr) (v : Value) (w : World) (h : w.cell? a = some v) : (method 231 88 (.pointer (some a)) "Less").run Try.prog w = .ok (91, v) w := by
  rw [method_less0, run_loadk a v w _ h]
  rfl
theorem method_swap0 (a : Addr) (w : World) : (method 231 88 (.pointer (some a)) "Swap").run Try.prog w = (Sem.load .plain a (fun v => .pure ((92 : FuncId), v))).run Try.prog w := by kernel_rfl
theorem method_swap (a : Addr) (v : Value) (w : World) (h : w.cell? a = some v) : (method 231 88 (.pointer (some a)) "Swap").run Try.prog w = .ok (92, v) w := by
  rw [method_swap0, run_loadk a v w _ h]
  rfl
theorem method_len0 (a : Addr) (w : World) : (method 231 88 (.pointer (some a)) "Len").run Try.prog w = (Sem.load .plain a (fun v => .pure ((60 : FuncId), v))).run Try.prog w := by kernel_rfl
theorem method_len (a : Addr) (v : Value) (w : World) (h : w.cell? a = some v) : (method 231 88 (.pointer (some a)) "Len").run Try.prog w = .ok (60, v) w := by
  rw [method_len0, run_loadk a v w _ h]
  rfl
theorem method_pop (a : Addr) (w : World) : (method 231 88 (.pointer (some a)) "Pop").run Try.prog w = .ok (93, .pointer (some a)) w := by kernel_rfl
theorem method_push (a : Addr) (w : World) : (method 231 88 (.pointer (some a)) "Push").run Try.prog w = .ok (94, .pointer (some a)) w := by kernel_rfl

theorem downP_leaf (f : Nat) (S : List PT) (i n : Nat) (h : ¬ 2 * i + 1 < n) : downP f S i n = S := by
  cases f with
  | zero => rfl
  | succ f => rw [downP, if_neg h]
theorem downP_stop (f : Nat) (S : List PT) (i n : Nat) (h : betP (nthP S (chP S i n)) (nthP S i) = false) : downP f S i n = S := by
  cases f with
  | zero => rfl
  | succ f =>
    rw [downP]
    split
    · rw [h, if_neg (by decide)]
    · rfl
theorem downP_go (f : Nat) (S : List PT) (i n : Nat) (h1 : 2 * i + 1 < n) (h : betP (nthP S (chP S i n)) (nthP S i) = true) : downP (f + 1) S i n = downP f (swp S i (chP S i n)) (chP S i n) n := by rw [downP, if_pos h1, if_pos h]

/-- The heap in memory: its variable in block T, its row in block G. -/
def HpM (w : World) (T G c : Nat) (E : List TE) : Prop := Blk w T [.slice (some ⟨G, 0, none⟩) E.length c] 62 ∧ ∃ cur, cur.length = c * 3 ∧ RowT w G cur E
theorem HpM.drew {w : World} {T G c : Nat} {E : List TE} (h : HpM w T G c E) (n : Nat) : HpM (w.drewN n) T G c E := h
theorem nthE_inE {E : List TE} {k : Nat} (h : k < E.length) : nthE E k ∈ E := by
  unfold nthE
  simp [List.getD, h]
theorem swpE_mem {E : List TE} {i j : Nat} (hi : i < E.length) (hj : j < E.length) : ∀ e ∈ swpE E i j, e ∈ E := fun e he => by
  unfold swpE at he
  rcases List.mem_or_eq_of_mem_set he with he | he
  · rcases List.mem_or_eq_of_mem_set he with he | he
    · exact he
    · rw [he]; exact nthE_inE hj
  · rw [he]; exact nthE_inE hi
/-- The contracts that a walk over the heap wants. -/
theorem hp_less {w : World} {T G c : Nat} {E : List TE} (h : HpM w T G c E) (hl : E.length ≤ 1000) (i j : Nat) (hi : i < E.length) (hj : j < E.length) (a b : Int) (ha : a = (i : Int)) (hb : b = (j : Int)) (B : Bool) (hB : betP (nthP (E.map TE.pl) i) (nthP (E.map TE.pl) j) = B) :
    Calls Try.prog 91 #[.slice (some ⟨G, 0, none⟩) E.length c, .int .i64 a, .int .i64 b] w fun e w' => e = .returned (.bool B) ∧ ∃ n, w' = w.drewN n := by
  subst ha
  subst hb
  obtain ⟨cur, _, hr⟩ := h.2
  rw [← hB, ← nthE_pl, ← nthE_pl]
  exact less_any G c cur E i j w hi hj hl hr
theorem hp_swap {w : World} {T G c : Nat} {E : List TE} (h : HpM w T G c E) (hTG : T ≠ G) (hl : E.length ≤ 1000) (hS : ∀ e ∈ E, ∃ a n c, e.y = .slice a n c) (i j : Nat) (hi : i < E.length) (hj : j < E.length) (a b : Int) (ha : a = (i : Int)) (hb : b = (j : Int)) :
    Calls Try.prog 92 #[.slice (some ⟨G, 0, none⟩) E.length c, .int .i64 a, .int .i64 b] w fun e w' => e = .returned (.tuple #[]) ∧ HpM w' T G c (swpE E i j) ∧ Ef G w w' := by
  subst ha
  subst hb
  obtain ⟨hT, cur, hc, hr⟩ := h
  refine (swap_any G c cur E i j w hi hj hl hr (fun k hk => hS _ (nthE_inE hk))).mono ?_
  rintro e w' ⟨rfl, ⟨cur', hc', hr'⟩, he⟩
  exact ⟨rfl, ⟨by rw [swpE_len]; exact hT.ef he hTG, cur', by rw [hc', hc], hr'⟩, he⟩

set_option maxRecDepth 20000 in
set_option maxHeartbeats 1600000 in
theorem down_any (T G c : Nat) (E : List TE) (i n : Nat) (w : World) (hTG : T ≠ G) (hi : i < 1000) (hn : n ≤ E.length) (hl : E.length ≤ 1000) (h : HpM w T G c E) (hS : ∀ e ∈ E, ∃ a n c, e.y = .slice a n c) :
    Calls Try.prog 69 #[.iface 88 (.pointer (some ⟨T, 0, none⟩)), .int .i64 (i : Int), .int .i64 (n : Int)] w fun e w' => ∃ r, e = .returned (.bool r) ∧ (∃ E', HpM w' T G c E' ∧ E'.map TE.pl = downP E.length (E.map TE.pl) i n ∧ E'.length = E.length ∧ ∀ e ∈ E', e ∈ E) ∧ Ef G w w' := by
  have H := hid h
  have HS := hid hS
  have HI := hid hi
  have HN := hid hn
  have HL := hid hl
  have HTG := hid hTG
  clear h hS hi hn hl hTG
  go_enter Try.func69, Try.ntmps69
  go_wp2_with fail
  go_loopw [7] (fun k wr => ∃ (K f : Nat) (E' : List TE), k = .int .i64 (K : Int) ∧ Hid (K < 1000) ∧ Hid (HpM wr T G c E') ∧ Hid (downP f (E'.map TE.pl) K n = downP E.length (E.map TE.pl) i n ∧ n ≤ f + K) ∧ Hid (E'.length = E.length ∧ ∀ e ∈ E', e ∈ E) ∧ Hid (Ef G w wr)) (fun k _ => 1000 - (intOf k).toNat)
  case atStart => exact ⟨i, E.length, E, rfl, HI.out, H.out, ⟨rfl, by have := HN.out; omega⟩, ⟨rfl, fun e he => he⟩, Ef.refl _ _⟩
  case round =>
    obtain ⟨K, f, E', rfl, hK, hM, hF, hE, he⟩ := hrel
    have k0 : (0 : Int) ≤ (K : Int) := by omega
    have kb : (K : Int) ≤ 1000 := by have := hK.out; omega
    have hc0 := hM.out.1.cell (i := 0) rfl
    have HML : ∀ q, q.cell? ⟨T, 0, none⟩ = some (.slice (some ⟨G, 0, none⟩) E'.length c) → (method 231 88 (.pointer (some ⟨T, 0, none⟩)) "Less").run Try.prog q = .ok (91, .slice (some ⟨G, 0, none⟩) E'.length c) q := fun q hq => method_less _ _ q hq
    have HMS : ∀ q, q.cell? ⟨T, 0, none⟩ = some (.slice (some ⟨G, 0, none⟩) E'.length c) → (method 231 88 (.pointer (some ⟨T, 0, none⟩)) "Swap").run Try.prog q = .ok (92, .slice (some ⟨G, 0, none⟩) E'.length c) q := fun q hq => method_swap _ _ q hq
    have HLn : Hid (E'.length ≤ 1000) := hid (by rw [hE.out.1]; exact HL.out)
    have HnE : Hid (n ≤ E'.length) := hid (by rw [hE.out.1]; exact HN.out)
    have HSE : Hid (∀ e ∈ E', ∃ a n c, e.y = .slice a n c) := hid (fun e h => HS.out e (hE.out.2 e h))
    by_cases h1 : 2 * K + 1 < n
    · have h1' : decide ((n : Int) ≤ 2 * (K : Int) + 1) = false := by simp; omega
      have h3' : decide (2 * (K : Int) + 1 < 0) = false := by simp; omega
      have H1 := hid h1
      obtain ⟨f', rfl⟩ : ∃ f', f = f' + 1 := ⟨f - 1, by have := hF.out.2; omega⟩
      by_cases h2 : 2 * K + 2 < n
      · have h2' : decide (2 * (K : Int) + 1 + 1 < (n : Int)) = true := by simp; omega
        have H2 := hid h2
        cases hb1 : betP (nthP (E'.map TE.pl) (2 * K + 2)) (nthP (E'.map TE.pl) (2 * K + 1)) with
        | true =>
          have hch : Hid (chP (E'.map TE.pl) K n = 2 * K + 2) := hid (by unfold chP; rw [if_pos ⟨h2, hb1⟩])
          have HP := hid (hp_less hM.out HLn.out (2 * K + 2) (2 * K + 1) (by have := H2.out; have := HnE.out; omega) (by have := H2.out; have := HnE.out; omega) (2 * (K : Int) + 1 + 1) (2 * (K : Int) + 1) (by omega) (by omega) true hb1)
          clear h1 h2 hb1
          go_upto_region 8 with (go_at_call 91; refine HP.out.mono ?_; rintro e w2 ⟨rfl, q2, rfl⟩)
          have hM2 := hid (hM.out.drew q2)
          have he2 := hid (he.out.drewN q2)
          clear hc0 hM he
          generalize wr.drewN q2 = wx at *
          have hc0 := hM2.out.1.cell (i := 0) rfl
          have HJ : Hid (2 * K + 2 < E'.length ∧ K < E'.length ∧ 2 * K + 2 < 1000) := hid (by have := H1.out; have := HnE.out; have := HLn.out; have := H2.out; omega)
          cases hb2 : betP (nthP (E'.map TE.pl) (2 * K + 2)) (nthP (E'.map TE.pl) K) with
          | false =>
            have HQ := hid (hp_less hM2.out HLn.out (2 * K + 2) K HJ.out.1 HJ.out.2.1 (2 * (K : Int) + 1 + 1) (K : Int) (by omega) rfl false hb2)
            have HR := hid ((downP_stop (f' + 1) (E'.map TE.pl) K n (by rw [hch.out]; exact hb2)).symm.trans hF.out.1)
            clear hb2
            go_wp2_with (go_at_call 91; refine HQ.out.mono ?_; rintro e w3 ⟨rfl, q3, rfl⟩)
            go_ret
            exact ⟨_, rfl, ⟨E', hM2.out.drew q3, HR.out, hE.out.1, hE.out.2⟩, he2.out.drewN q3⟩
          | true =>
            have HQ := hid (hp_less hM2.out HLn.out (2 * K + 2) K HJ.out.1 HJ.out.2.1 (2 * (K : Int) + 1 + 1) (K : Int) (by omega) rfl true hb2)
            have HG := hid ((downP_go f' (E'.map TE.pl) K n H1.out (by rw [hch.out]; exact hb2)).symm.trans hF.out.1)
            rw [hch.out] at HG
            clear hb2
            go_wp2_with (go_at_call 91; refine HQ.out.mono ?_; rintro e w3 ⟨rfl, q3, rfl⟩)
            refine (hp_swap (hM2.out.drew q3) HTG.out HLn.out HSE.out K (2 * K + 2) HJ.out.2.1 HJ.out.1 (K : Int) (2 * (K : Int) + 1 + 1) rfl (by omega)).mono ?_
            rintro e w4 ⟨rfl, hm4, he4⟩
            have HM4 := hid hm4
            have HE4 := hid ((he2.out.drewN q3).trans he4)
            clear hm4 he4
            go_wp2_with fail
            go_roundw
            case rel => exact ⟨2 * K + 2, f', swpE E' K (2 * K + 2), val_int (by omega), HJ.out.2.2, HM4.out, ⟨by rw [swpE_pl]; exact HG.out, by have := hF.out.2; omega⟩, ⟨by rw [swpE_len]; exact hE.out.1, fun e h => hE.out.2 e (swpE_mem HJ.out.2.1 HJ.out.1 e h)⟩, HE4.out⟩
            case measure => simp [intOf]; have := HJ.out.2.2; omega
        | false =>
          have hch : Hid (chP (E'.map TE.pl) K n = 2 * K + 1) := hid (by unfold chP; rw [if_neg (fun e => by rw [hb1] at e; cases e.2)])
          have HP := hid (hp_less hM.out HLn.out (2 * K + 2) (2 * K + 1) (by have := H2.out; have := HnE.out; omega) (by have := H2.out; have := HnE.out; omega) (2 * (K : Int) + 1 + 1) (2 * (K : Int) + 1) (by omega) (by omega) false hb1)
          clear h1 h2 hb1
          go_upto_region 8 with (go_at_call 91; refine HP.out.mono ?_; rintro e w2 ⟨rfl, q2, rfl⟩)
          have hM2 := hid (hM.out.drew q2)
          have he2 := hid (he.out.drewN q2)
          clear hc0 hM he
          generalize wr.drewN q2 = wx at *
          have hc0 := hM2.out.1.cell (i := 0) rfl
          have HJ : Hid (2 * K + 1 < E'.length ∧ K < E'.length ∧ 2 * K + 1 < 1000) := hid (by have := H1.out; have := HnE.out; have := HLn.out; have := H2.out; omega)
          cases hb2 : betP (nthP (E'.map TE.pl) (2 * K + 1)) (nthP (E'.map TE.pl) K) with
          | false =>
            have HQ := hid (hp_less hM2.out HLn.out (2 * K + 1) K HJ.out.1 HJ.out.2.1 (2 * (K : Int) + 1) (K : Int) (by omega) rfl false hb2)
            have HR := hid ((downP_stop (f' + 1) (E'.map TE.pl) K n (by rw [hch.out]; exact hb2)).symm.trans hF.out.1)
            clear hb2
            go_wp2_with (go_at_call 91; refine HQ.out.mono ?_; rintro e w3 ⟨rfl, q3, rfl⟩)
            go_ret
            exact ⟨_, rfl, ⟨E', hM2.out.drew q3, HR.out, hE.out.1, hE.out.2⟩, he2.out.drewN q3⟩
          | true =>
            have HQ := hid (hp_less hM2.out HLn.out (2 * K + 1) K HJ.out.1 HJ.out.2.1 (2 * (K : Int) + 1) (K : Int) (by omega) rfl true hb2)
            have HG := hid ((downP_go f' (E'.map TE.pl) K n H1.out (by rw [hch.out]; exact hb2)).symm.trans hF.out.1)
            rw [hch.out] at HG
            clear hb2
            go_wp2_with (go_at_call 91; refine HQ.out.mono ?_; rintro e w3 ⟨rfl, q3, rfl⟩)
            refine (hp_swap (hM2.out.drew q3) HTG.out HLn.out HSE.out K (2 * K + 1) HJ.out.2.1 HJ.out.1 (K : Int) (2 * (K : Int) + 1) rfl (by omega)).mono ?_
            rintro e w4 ⟨rfl, hm4, he4⟩
            have HM4 := hid hm4
            have HE4 := hid ((he2.out.drewN q3).trans he4)
            clear hm4 he4
            go_wp2_with fail
            go_roundw
            case rel => exact ⟨2 * K + 1, f', swpE E' K (2 * K + 1), val_int (by omega), HJ.out.2.2, HM4.out, ⟨by rw [swpE_pl]; exact HG.out, by have := hF.out.2; omega⟩, ⟨by rw [swpE_len]; exact hE.out.1, fun e h => hE.out.2 e (swpE_mem HJ.out.2.1 HJ.out.1 e h)⟩, HE4.out⟩
            case measure => simp [intOf]; have := HJ.out.2.2; omega
      · have h2' : decide (2 * (K : Int) + 1 + 1 < (n : Int)) = false := by simp; omega
        have hch : Hid (chP (E'.map TE.pl) K n = 2 * K + 1) := hid (by unfold chP; rw [if_neg (fun e => h2 e.1)])
        clear h1 h2
        go_upto_region 8 with fail
        have hM2 := hM
        have he2 := he
        clear hc0 hM he
        generalize wr = wx at *
        have hc0 := hM2.out.1.cell (i := 0) rfl
        have HJ : Hid (2 * K + 1 < E'.length ∧ K < E'.length ∧ 2 * K + 1 < 1000) := hid (by have := H1.out; have := HnE.out; have := HLn.out; omega)
        cases hb2 : betP (nthP (E'.map TE.pl) (2 * K + 1)) (nthP (E'.map TE.pl) K) with
        | false =>
          have HQ := hid (hp_less hM2.out HLn.out (2 * K + 1) K HJ.out.1 HJ.out.2.1 (2 * (K : Int) + 1) (K : Int) (by omega) rfl false hb2)
          have HR := hid ((downP_stop (f' + 1) (E'.map TE.pl) K n (by rw [hch.out]; exact hb2)).symm.trans hF.out.1)
          clear hb2
          go_wp2_with (go_at_call 91; refine HQ.out.mono ?_; rintro e w3 ⟨rfl, q3, rfl⟩)
          go_ret
          exact ⟨_, rfl, ⟨E', hM2.out.drew q3, HR.out, hE.out.1, hE.out.2⟩, he2.out.drewN q3⟩
        | true =>
          have HQ := hid (hp_less hM2.out HLn.out (2 * K + 1) K HJ.out.1 HJ.out.2.1 (2 * (K : Int) + 1) (K : Int) (by omega) rfl true hb2)
          have HG := hid ((downP_go f' (E'.map TE.pl) K n H1.out (by rw [hch.out]; exact hb2)).symm.trans hF.out.1)
          rw [hch.out] at HG
          clear hb2
          go_wp2_with (go_at_call 91; refine HQ.out.mono ?_; rintro e w3 ⟨rfl, q3, rfl⟩)
          refine (hp_swap (hM2.out.drew q3) HTG.out HLn.out HSE.out K (2 * K + 1) HJ.out.2.1 HJ.out.1 (K : Int) (2 * (K : Int) + 1) rfl (by omega)).mono ?_
          rintro e w4 ⟨rfl, hm4, he4⟩
          have HM4 := hid hm4
          have HE4 := hid ((he2.out.drewN q3).trans he4)
          clear hm4 he4
          go_wp2_with fail
          go_roundw
          case rel => exact ⟨2 * K + 1, f', swpE E' K (2 * K + 1), val_int (by omega), HJ.out.2.2, HM4.out, ⟨by rw [swpE_pl]; exact HG.out, by have := hF.out.2; omega⟩, ⟨by rw [swpE_len]; exact hE.out.1, fun e h => hE.out.2 e (swpE_mem HJ.out.2.1 HJ.out.1 e h)⟩, HE4.out⟩
          case measure => simp [intOf]; have := HJ.out.2.2; omega
    · have h1' : decide ((n : Int) ≤ 2 * (K : Int) + 1) = true := by simp; omega
      have HR := hid ((downP_leaf f (E'.map TE.pl) K n h1).symm.trans hF.out.1)
      clear h1
      go_wp2_with fail
      go_ret
      exact ⟨_, rfl, ⟨E', hM.out, HR.out, hE.out.1, hE.out.2⟩, he.out⟩
end Go.Proofs.Ytmdmolofiblbmaa
