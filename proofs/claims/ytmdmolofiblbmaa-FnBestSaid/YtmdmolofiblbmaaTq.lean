/- treesOf. -/
import Derived.Test.YtmdmolofiblbmaaBl
namespace Go.Proofs.Ytmdmolofiblbmaa
open Go.RowKit
set_option linter.unusedVariables false

/-- The slice v is the call's own and holds these trees. -/
def TrQ (w : World) (base : Nat) (v : Value) (E : List TE) : Prop := base ≤ w.heap.size ∧ w.ownsRow base 86 3 v E.length (flE E) ∧ ∀ e ∈ E, Own w 0 3 .i64 e.y e.s
theorem TrQ.shape {w : World} {base : Nat} {v : Value} {E : List TE} (h : TrQ w base v E) : ∃ ao cap, v = .slice ao E.length cap := by
  rcases h.2.1.2 with ⟨rfl, h0⟩ | ⟨g, cap, cur, rfl, _⟩
  · exact ⟨none, 0, by rw [h0]⟩
  · exact ⟨_, _, rfl⟩
theorem TrQ.empty (w : World) (base : Nat) (hb : base ≤ w.heap.size) : TrQ (w.alloc (.cells #[] 86)) base (.slice (some ⟨w.heap.size, 0, none⟩) 0 0) [] :=
  ⟨Nat.le_trans hb (by simp), World.ownsRow_made w #[] 0 hb (by simp [maxLen]) rfl, fun e he => by simp at he⟩
theorem TrQ.below {w w' : World} {base : Nat} {v : Value} {E : List TE} (h : TrQ w base v E) (hb : Below w.heap.size w w') : TrQ w' base v E := by
  obtain ⟨h1, h2, h3⟩ := h
  refine ⟨Nat.le_trans h1 hb.size, ⟨h2.1, ?_⟩, fun e he => (h3 e he).below hb⟩
  rcases h2.2 with h0 | ⟨g, cap, cur, hv, hg, hh, r⟩
  · exact .inl h0
  · exact .inr ⟨g, cap, cur, hv, hg, (hb.block g (Array.getElem?_eq_some_iff.1 hh).1).trans hh, r⟩
/-- The cells of an own row of trees, from a place on. -/
theorem TrQ.cells {w : World} {base : Nat} {g n c : Nat} {E : List TE} (h : TrQ w base (.slice (some ⟨g, 0, none⟩) n c) E) (j : Nat) (u : Value) (hj : (flE E)[j]? = some u) : w.cell? ⟨g, j, none⟩ = some u := by
  have := h.2.1.cells (g := g) (by simp [Value.ownBlock]) j u hj
  rwa [Addr.add_lit, Nat.zero_add] at this

/-- What an append of trees leaves as it was, and what it makes. -/
theorem TrQ.pushed {w w' : World} {base : Nat} {v v' : Value} {E E2 : List TE} (h : TrQ w base v E) (hE2 : ∀ e ∈ E2, Own w 0 3 .i64 e.y e.s)
    (hown' : w'.ownsRow base 86 3 v' (E.length + E2.length) (flE E ++ flE E2)) (hgrow : w.grownBy w' v.ownBlock) : TrQ w' base v' (E ++ E2) ∧ Kp3 w w' := by
  have hk : Kp3 w w' := by
    intro g cur hg
    refine (hgrow.block g (Array.getElem?_eq_some_iff.1 hg).1 ?_).trans hg
    intro eq
    rcases h.2.1.2 with ⟨hv, _⟩ | ⟨g', cap, cur', hv, _, hh, _⟩
    · subst hv; cases eq
    · subst hv
      have : g = g' := by simpa [Value.ownBlock] using eq
      subst this
      rw [hg] at hh
      cases hh
  refine ⟨⟨Nat.le_trans h.1 hgrow.size, by rw [List.length_append, flE_append]; exact hown', fun e he => ?_⟩, hk⟩
  rcases List.mem_append.1 he with he | he
  · exact (h.2.2 e he).kp3 hk hgrow.size
  · exact (hE2 e he).kp3 hk hgrow.size

theorem wpList_appQ {P : Program} {ops : Array Oper} {rest : List Oper} {o : Oper} {a : Act} {Q : Exit → Act → World → Prop} (w : World) (hgd : o.guard = none) (s x : Operand) (t : TypeId)
    (ho : o.op = .call { callee := .builtin .append, args := #[s, x], argTypes := #[t, t] })
    (base : Nat) (ht : P.underlying t = some (.slice 86)) (hinfo : (P.info? 86).map (fun i => (i.zero, i.size, i.bytes)) = some (some (.agg #[.int .i64 0, .int .i64 0, .slice none 0 0]), 3, 40))
    (v : Value) (E : List TE) (hs : a.eval s = v) (hown : TrQ w base v E) (ad : Addr) (c : Nat) (E2 : List TE) (hx : a.eval x = .slice (some ad) E2.length c)
    (hcells : ∀ (j : Nat) u, (flE E2)[j]? = some u → w.cell? (ad.add j) = some u) (hE2 : ∀ e ∈ E2, Own w 0 3 .i64 e.y e.s) (hlen : E.length + E2.length < 1000000000)
    (h : ∀ v' w', TrQ w' base v' (E ++ E2) → Kp3 w w' → Below base w w' → wpList P ops Q rest (a.put o.dst v') w') : wpList P ops Q (o :: rest) a w := by
  obtain ⟨i, hi, hz0, hz1, hz2⟩ := info_parts hinfo
  have hb := hown.1
  have hlt := hown.2.1.lt
  refine wpList_append_own _ hgd s x t ho base 86 i (.agg #[.int .i64 0, .int .i64 0, .slice none 0 0]) 3 40 ht hi hz0 hz1 hz2 rfl (by decide) v E.length _ hs hown.2.1 ad E2.length c (flE E2) hx (flE_len E2) hcells ?_ (by unfold maxLen; omega) (by omega) hb ?_
  · intro u hu
    simp only [flE, List.mem_flatMap] at hu
    obtain ⟨e, he, hu⟩ := hu
    obtain ⟨ao, cc, hy⟩ := (hE2 e he).shape
    simp at hu
    rcases hu with rfl | rfl | rfl
    · rfl
    · rfl
    · rw [hy]; rfl
  · intro v' w' hown' hgrow _
    obtain ⟨h1, h2⟩ := TrQ.pushed hown hE2 hown' hgrow
    exact h v' w' h1 h2 ((Below.refl base w).grown hgrow hb (fun g hg => (hlt g hg).1))

theorem TrQ.first (w : World) : TrQ ((w.alloc (.cells #[.int .i64 256] 3)).alloc (.cells #[.int .i64 0, .int .i64 256, .slice (some ⟨w.heap.size, 0, none⟩) 1 1] 86)) w.heap.size (.slice (some ⟨w.heap.size + 1, 0, none⟩) 1 1) [(0, 256, .slice (some ⟨w.heap.size, 0, none⟩) 1 1, [256])] := by
  have hr := heap_alloc_new (w.alloc (.cells #[.int .i64 256] 3)) (.cells #[.int .i64 0, .int .i64 256, .slice (some ⟨w.heap.size, 0, none⟩) 1 1] 86)
  rw [World.size_alloc] at hr
  refine ⟨by simp; omega, ⟨by simp [flE], .inr ⟨w.heap.size + 1, 1, _, rfl, by omega, hr, Nat.le_refl _, by decide, rfl, rfl⟩⟩, fun e he => ?_⟩
  simp at he
  subst he
  exact (Own.madeI w 0 [256] (Nat.zero_le _) (by simp)).below ((Below.refl _ _).alloc (Nat.le_refl _) _)

set_option maxRecDepth 20000 in
set_option maxHeartbeats 1600000 in
theorem impl_trees (ao : Option Addr) (cap : Nat) (fs : List Int) (w : World) (hv : View .i64 w ao 256 fs) (hf : ∀ j, j < 256 → 0 ≤ fs.getD j 0 ∧ fs.getD j 0 ≤ 100000) :
    Calls Try.prog 40 #[.slice ao 256 cap] w fun e w' => ∃ v E, e = .returned v ∧ TrQ w' w.heap.size v E ∧ E.map TE.pl = (0, 256, [256]) :: initP fs 256 ∧ Below w.heap.size w w' := by
  have HV := hid hv
  have HF := hid hf
  have H0 := hid (TrQ.first w)
  have HB0 := hid (((Below.refl w.heap.size w).alloc (Nat.le_refl _) (.cells #[.int .i64 256] 3)).alloc (by simp) (.cells #[.int .i64 0, .int .i64 256, .slice (some ⟨w.heap.size, 0, none⟩) 1 1] 86))
  clear hv hf
  go_enter Try.func40, Try.ntmps40
  go_wp2_with fail
  go_loopw [3, 11] (fun v i wr => ∃ k : Nat, k ≤ 256 ∧ i = .int .i64 k ∧ Hid (∃ E, TrQ wr w.heap.size v E ∧ E.map TE.pl = (0, 256, [256]) :: initP fs k ∧ Below w.heap.size w wr)) (fun _ i _ => 256 - (intOf i).toNat)
  case atStart => exact ⟨0, by omega, rfl, hid ⟨_, H0.out, rfl, HB0.out⟩⟩
  case round =>
    clear H0 HB0
    obtain ⟨k, hk, rfl, hL⟩ := hrel
    obtain ⟨E, hT, hp, hb⟩ := hL.out
    have HP := hid hp
    have HBB := hid hb
    have hEl : E.length ≤ 257 := by
      have h1 := congrArg List.length hp
      have h2 := initP_len fs k
      rw [List.length_map, List.length_cons] at h1
      omega
    by_cases hlt : k < 256
    · have hlt' : (k : Int) < 256 := by omega
      obtain ⟨b, off, rfl, hc⟩ := HV.out.2 k hlt
      have hcr : wr.cell? ⟨b, off + k, none⟩ = some (.int .i64 (fs.getD k 0)) := (hb.cell (p := ⟨b, off + k, none⟩) (World.block_lt_of_cell? w _ hc)).trans hc
      have hA := ((Below.refl wr.heap.size wr).alloc (Nat.le_refl _) (.cells #[.int .i64 k] 3)).alloc (by simp) (.cells #[.int .i64 (fs.getD k 0), .int .i64 k, .slice (some ⟨wr.heap.size, 0, none⟩) 1 1] 86)
      have HST := hid (show initP fs (k + 1) = if 0 < fs.getD k 0 then initP fs k ++ [(fs.getD k 0, (k : Int), [(k : Int)])] else initP fs k from rfl)
      have hf1 := (HF.out k hlt).2
      clear hL hp hb hc
      generalize fs.getD k 0 = F at *
      have HT2 := hid (hT.below hA)
      have HB2 := hid (HBB.out.trans (hA.mono HBB.out.size))
      have HY2 := hid ((Own.madeI wr 0 [(k : Int)] (Nat.zero_le _) (by simp)).below ((Below.refl _ _).alloc (Nat.le_refl _) (.cells #[.int .i64 F, .int .i64 k, .slice (some ⟨wr.heap.size, 0, none⟩) 1 1] 86)))
      have HC2 : Hid (∀ (j : Nat) u, (flE [(F, (k : Int), .slice (some ⟨wr.heap.size, 0, none⟩) 1 1, [(k : Int)])])[j]? = some u → ((wr.alloc (.cells #[.int .i64 k] 3)).alloc (.cells #[.int .i64 F, .int .i64 k, .slice (some ⟨wr.heap.size, 0, none⟩) 1 1] 86)).cell? ((⟨wr.heap.size + 1, 0, none⟩ : Addr).add j) = some u) := by
        intro j u hj
        have hrow := heap_alloc_new (wr.alloc (.cells #[.int .i64 k] 3)) (.cells #[.int .i64 F, .int .i64 k, .slice (some ⟨wr.heap.size, 0, none⟩) 1 1] 86)
        rw [World.size_alloc] at hrow
        rw [Addr.add_lit, Nat.zero_add, cell_of_row _ _ j _ 86 (0, 0) hrow]
        simpa [flE, TE.w, TE.l, TE.y] using hj
      have HT := hid hT
      clear hT hA
      by_cases hpos : 0 < F
      · have HEN := hid (show ∀ v2 w2, TrQ w2 w.heap.size v2 (E ++ [(F, (k : Int), .slice (some ⟨wr.heap.size, 0, none⟩) 1 1, [(k : Int)])]) → Below w.heap.size ((wr.alloc (.cells #[.int .i64 k] 3)).alloc (.cells #[.int .i64 F, .int .i64 k, .slice (some ⟨wr.heap.size, 0, none⟩) 1 1] 86)) w2 → ∃ E, TrQ w2 w.heap.size v2 E ∧ E.map TE.pl = (0, 256, [256]) :: initP fs (k + 1) ∧ Below w.heap.size w w2 from fun v2 w2 h1 h2 => ⟨_, h1, by rw [List.map_append, HP.out, HST.out, if_pos hpos]; rfl, HB2.out.trans h2⟩)
        have hlE : E.length + 1 < 1000000000 := by omega
        clear HST
        go_wp2_with (at_builtin; refine wpList_appQ _ rfl _ _ 62 rfl _ Try.underlying62 Try.info86 _ _ rfl HT2.out ⟨wr.heap.size + 1, 0, none⟩ 1 [(F, (k : Int), .slice (some ⟨wr.heap.size, 0, none⟩) 1 1, [(k : Int)])] rfl HC2.out (fun e he => by simp at he; subst he; exact HY2.out) hlE ?_)
        intro v2 w2 hT3 hkp hb3
        have HLN := hid (HEN.out _ _ hT3 hb3)
        clear hT3 hkp hb3
        go_wp2
        go_roundw
        case rel => exact ⟨k + 1, by omega, by go_num, HLN⟩
        case measure => simp [intOf]; omega
      · have HLN := hid (show ∃ E, TrQ wr w.heap.size _ E ∧ E.map TE.pl = (0, 256, [256]) :: initP fs (k + 1) ∧ Below w.heap.size w wr from ⟨E, HT.out, by rw [HP.out, HST.out, if_neg hpos], HBB.out⟩)
        clear HST
        go_wp2
        go_roundw
        case rel => exact ⟨k + 1, by omega, by go_num, HLN⟩
        case measure => simp [intOf]; omega
    · obtain rfl : k = 256 := by omega
      obtain ⟨aS, cS, rfl⟩ := hT.shape
      have HT := hid hT
      clear hT hp hb hL
      go_wp2
      go_ret
      exact ⟨_, E, rfl, HT.out, HP.out, HBB.out⟩
end Go.Proofs.Ytmdmolofiblbmaa
