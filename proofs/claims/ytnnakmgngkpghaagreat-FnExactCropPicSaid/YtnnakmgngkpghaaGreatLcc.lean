/- The specification's copies of codes and of a picture: what their drawn statements leave. -/
import Derived.Test.YtnnakmgngkpghaaGreatE8
import Derived.Test.YtnnakmgngkpghaaGreatRi
import Derived.ArgAppend
import Derived.Laws.OwnMore
namespace Go.Proofs.YtnnakmgngkpghaaGreat
open Go.RowKit Go.Maps
set_option linter.unusedVariables false

/-- 'append([]int{}, xs...)': the copy is the call's own. -/
theorem run_appI (w : World) (M g : Nat) (hown : Own w M 3 .i64 (.slice (some ⟨g, 0, none⟩) 0 0) []) (y : Value) (xs : List Int) (hy : Vp w y xs) (hlen : xs.length < 1000000000) :
    ∃ v' w', (Builtin.append_ #[22, 22] 22 #[.slice (some ⟨g, 0, none⟩) 0 0, y]).run Tryz.prog w = .ok v' w' ∧ Own w' M 3 .i64 v' xs ∧ Below w.heap.size w w' := by
  obtain ⟨i, hi, hz0, hz1, hz2⟩ := info_parts Tryz.info3
  have hb := hown.1
  obtain ⟨ao, cap, rfl, hv, hp⟩ := hy
  rcases hp with ⟨rfl, h0, rfl⟩ | ⟨blk, off, rfl⟩
  · have : xs = [] := List.length_eq_zero_iff.1 h0
    subst this
    exact ⟨_, w, run_append_owned_none (P := Tryz.prog) (w := w) M 22 22 3 i 1 Tryz.underlying22 hi _ 0 [] hown.2, hown, Below.refl _ _⟩
  · have hcell : ∀ j u, (xs.map (Value.int .i64))[j]? = some u → w.cell? (Addr.add ⟨blk, off, none⟩ j) = some u := fun j u hj => by
      have hjl : j < xs.length := by have := (List.getElem?_eq_some_iff.1 hj).1; simpa using this
      obtain ⟨b', off', e', hc⟩ := hv.2 j hjl
      cases e'
      simp [hjl] at hj
      rw [Addr.add_lit, hc, ← hj]
      simp [List.getD, hjl]
    by_cases h0 : xs.length = 0
    · have : xs = [] := List.length_eq_zero_iff.1 h0
      subst this
      have hrun := run_append_room_cells (P := Tryz.prog) w 22 22 3 i Tryz.underlying22 hi g 0 0 0 ⟨blk, off, none⟩ 0 cap [] (by simp) (by simp) (by simp) (by omega) (by simp) (by simp)
      exact ⟨_, _, hrun, hown, Below.refl _ _⟩
    · obtain ⟨v', w', hrun, r1, r2⟩ := run_append_arg_grows (P := Tryz.prog) w 22 22 3 i (.int .i64 0) 1 8 Tryz.underlying22 hi hz0 hz1 hz2 rfl (by decide) ⟨g, 0, none⟩ 0 0 [] (by simp) (by simp) ⟨blk, off, none⟩ xs.length cap (xs.map (Value.int .i64)) (by simp) hcell (by omega) (by unfold maxLen; omega) (by omega)
      refine ⟨v', w', hrun, ?_, ⟨r2.os, r2.tape, r2.output, r2.size, fun k hk => r2.block k hk (by simp)⟩⟩
      have h2 : Own w' w.heap.size 3 .i64 v' xs := ⟨r2.size, by simpa using r1⟩
      exact h2.mono hb

theorem wp_app_run {P : Program} {o : Oper} {a : Act} {w : World} {K : Act → World → Prop} {Q : Exit → Act → World → Prop} (s x : Operand) (t : TypeId) (ho : o.op = .call { callee := .builtin .append, args := #[s, x], argTypes := #[t, t] }) (vs vx : Value) (hs : a.eval s = vs) (hx : a.eval x = vx) (v' : Value) (w' : World)
    (hrun : (Builtin.append_ #[t, t] o.type #[vs, vx]).run P w = .ok v' w') (h : K (a.put o.dst v') w') : Oper.wp P o a w K Q := by
  unfold Oper.wp
  simp [execOp, ho, resolve, invoke, builtin, hs, hx, hrun, Result.andThen]
  exact h
theorem Own.emptyI (w : World) (M : Nat) (hM : M ≤ w.heap.size) : Own (w.alloc (.cells #[] 3)) M 3 .i64 (.slice (some ⟨w.heap.size, 0, none⟩) 0 0) [] := Own.empty _ _ _ _ hM

/-- What the operations of a copy of codes leave. -/
def VC (cs ss : List Int) (va vb : Value) (b0 M : Nat) : Nat → Value → World → Prop
  | 0, u, w => ∃ g, u = .slice (some ⟨g, 0, none⟩) 0 0 ∧ Own w M 3 .i64 u []
  | 1, u, _ => u = .pointer (some ⟨b0, 0, none⟩)
  | 2, u, _ => u = va
  | 3, u, w => Own w M 3 .i64 u cs
  | 4, u, w => ∃ g, u = .slice (some ⟨g, 0, none⟩) 0 0 ∧ Own w M 3 .i64 u []
  | 5, u, _ => u = .pointer (some ⟨b0, 1, none⟩)
  | 6, u, _ => u = vb
  | 7, u, w => Own w M 3 .i64 u ss
  | 8, u, w => ∃ v1 v2, u = .agg #[v1, v2] ∧ Own w M 3 .i64 v1 cs ∧ Own w M 3 .i64 v2 ss
  | _, _, _ => True
theorem VC.below {cs ss : List Int} {va vb : Value} {b0 M : Nat} {w w' : World} (hb : Below w.heap.size w w') : ∀ k u, VC cs ss va vb b0 M k u w → VC cs ss va vb b0 M k u w'
  | 0, _, ⟨g, e, h⟩ => ⟨g, e, h.below hb⟩
  | 1, _, h => h
  | 2, _, h => h
  | 3, _, h => Own.below h hb
  | 4, _, ⟨g, e, h⟩ => ⟨g, e, h.below hb⟩
  | 5, _, h => h
  | 6, _, h => h
  | 7, _, h => Own.below h hb
  | 8, _, ⟨v1, v2, e, h1, h2⟩ => ⟨v1, v2, e, h1.below hb, h2.below hb⟩
  | k + 9, _, _ => trivial
def DC : Nat → Nat := fun j => #[3, 4, 5, 6, 7, 8, 9, 10, 11].getD j 999
theorem DC_ne : ∀ i j : Fin 9, j ≠ i → DC j ≠ DC i := by decide

set_option maxRecDepth 100000 in
set_option maxHeartbeats 3200000 in
theorem spec_copyCodes (t0 t1 : Value) (cs ss : List Int) (w : World) (h0 : cs.length ≤ 1048576) (h1 : ss.length ≤ 1048576) (u0 : Vp w t0 cs) (u1 : Vp w t1 ss) :
    Calls Tryz.prog 76 #[.agg #[t0, t1]] w fun e w' => ∃ x0 x1, e = .returned (.agg #[x0, x1]) ∧ Own w' w.heap.size 3 .i64 x0 cs ∧ Own w' w.heap.size 3 .i64 x1 ss ∧ Below w.heap.size w w' := by
  have U0 := hid u0
  have U1 := hid u1
  obtain ⟨a0, c0, rfl, _, _⟩ := u0
  obtain ⟨a1, c1, rfl, _, _⟩ := u1
  have hA1 := (Below.refl w.heap.size w).alloc (Nat.le_refl _) (.cells #[.slice a0 cs.length c0, .slice a1 ss.length c1] 31)
  have hA := hA1.alloc (by simp) (.cells #[.slice none 0 0, .slice none 0 0] 31)
  have hs1 : (w.alloc (.cells #[.slice a0 cs.length c0, .slice a1 ss.length c1] 31)).heap.size = w.heap.size + 1 := by simp
  have t2 := Two.new (w.alloc (.cells #[.slice a0 cs.length c0, .slice a1 ss.length c1] 31)) (.slice none 0 0) (.slice none 0 0) 31
  rw [hs1] at t2
  have N1 := hid ((Two.new w (.slice a0 cs.length c0) (.slice a1 ss.length c1) 31).alloc (.cells #[.slice none 0 0, .slice none 0 0] 31))
  have N2 := hid t2
  have N3 := hid hA
  clear hA hA1 hs1 t2
  go_enter Tryz.func76, Tryz.ntmps76
  go_upto_region 1 with fail
  generalize (w.alloc _).alloc _ = wa at *
  have hlt2 := N2.out.lt
  have hlt1 : w.heap.size < wa.heap.size := N1.out.lt
  refine wp_region_any (by kernel_rfl) ?_
  refine wpAny_inv (fun listed ac wq => ∃ u : Nat → Value, ac = { tmps := #[.agg #[.slice a0 cs.length c0, .slice a1 ss.length c1], .pointer (some ⟨w.heap.size, 0, none⟩), .pointer (some ⟨w.heap.size + 1, 0, none⟩), u 3, u 4, u 5, u 6, u 7, u 8, u 9, u 10, u 11], defers := [] } ∧ Inv2 9 (VC cs ss (.slice a0 cs.length c0) (.slice a1 ss.length c1) w.heap.size wa.heap.size) DC (fun q => Below wa.heap.size wa q) (fun _ => True) (fun _ u q => ∃ x1 y1 x2 y2, u 11 = .agg #[.slice x1 cs.length y1, .slice x2 ss.length y2] ∧ Two q (w.heap.size + 1) (.slice x1 cs.length y1) (.slice x2 ss.length y2) 31 ∧ Own q wa.heap.size 3 .i64 (.slice x1 cs.length y1) cs ∧ Own q wa.heap.size 3 .i64 (.slice x2 ss.length y2) ss ∧ Below (w.heap.size + 1) wa q) listed u wq) ?hpre ?hstep ?hend _ _ _ _ rfl (by decide) (fun j oj _ hl => absurd hl (by simp [Array.getD])) ⟨fun _ => undef, rfl, fun _ => ⟨(Below.refl wa.heap.size wa).drew, trivial, fun j _ hl => absurd hl (by simp [Array.getD])⟩, fun h => absurd h (by simp [Array.getD])⟩
  case hpre => exact pre_of (by kernel_rfl)
  case hend =>
    rintro listed ac wq hall ⟨u, rfl, hI⟩
    obtain ⟨x1, y1, x2, y2, e1, T, o1, o2, hb⟩ := hI.2 (hall 9 (by decide))
    obtain ⟨k0, k1, _, _⟩ := T.cells
    have HO1 := hid (o1.mono (base' := w.heap.size) (by omega))
    have HO2 := hid (o2.mono (base' := w.heap.size) (by omega))
    have HB := hid (N3.out.trans (hb.mono (by omega)))
    clear hI o1 o2 T hb
    go_wp2_with fail
    exact bodyPost_ret (v := .agg #[.slice x1 cs.length y1, .slice x2 ss.length y2]) (by simp [results, Tryz.results76, go_sem, k0, k1]) rfl ⟨_, _, rfl, HO1.out, HO2.out, HB.out⟩
  case hstep =>
    rintro listed ac wq i o hszl ⟨u, rfl, hI⟩ ho hall hun hcl
    have hin : i < 10 := (Array.getElem?_eq_some_iff.1 ho).1
    have HNS : Hid (i < 9 → listed.getD 9 false = false) := hid (fun hi => by
      cases hl : listed.getD 9 false with
      | false => rfl
      | true =>
        exfalso
        have l8 := hcl 9 _ rfl hl ⟨8, .data⟩ (by simp) rfl
        have l3 := hcl 8 _ rfl l8 ⟨3, .data⟩ (by simp) rfl
        have l7 := hcl 8 _ rfl l8 ⟨7, .data⟩ (by simp) rfl
        have l0 := hcl 3 _ rfl l3 ⟨0, .data⟩ (by simp) rfl
        have l2 := hcl 3 _ rfl l3 ⟨2, .data⟩ (by simp) rfl
        have l4 := hcl 7 _ rfl l7 ⟨4, .data⟩ (by simp) rfl
        have l6 := hcl 7 _ rfl l7 ⟨6, .data⟩ (by simp) rfl
        have l1 := hcl 2 _ rfl l2 ⟨1, .data⟩ (by simp) rfl
        have l5 := hcl 6 _ rfl l6 ⟨5, .data⟩ (by simp) rfl
        obtain rfl | rfl | rfl | rfl | rfl | rfl | rfl | rfl | rfl : i = 0 ∨ i = 1 ∨ i = 2 ∨ i = 3 ∨ i = 4 ∨ i = 5 ∨ i = 6 ∨ i = 7 ∨ i = 8 := by omega
        · exact getD_ft l0 hun
        · exact getD_ft l1 hun
        · exact getD_ft l2 hun
        · exact getD_ft l3 hun
        · exact getD_ft l4 hun
        · exact getD_ft l5 hun
        · exact getD_ft l6 hun
        · exact getD_ft l7 hun
        · exact getD_ft l8 hun)
    have ST : Hid (listed.getD 9 false = false → Facts 9 (VC cs ss (.slice a0 cs.length c0) (.slice a1 ss.length c1) w.heap.size wa.heap.size) DC listed u wq → i < 9 → ∀ (wz : World) (v : Value), Below wq.heap.size wq wz → (VC cs ss (.slice a0 cs.length c0) (.slice a1 ss.length c1) w.heap.size wa.heap.size) i v wz → Inv2 9 (VC cs ss (.slice a0 cs.length c0) (.slice a1 ss.length c1) w.heap.size wa.heap.size) DC (fun q => Below wa.heap.size wa q) (fun _ => True) (fun _ u q => ∃ x1 y1 x2 y2, u 11 = .agg #[.slice x1 cs.length y1, .slice x2 ss.length y2] ∧ Two q (w.heap.size + 1) (.slice x1 cs.length y1) (.slice x2 ss.length y2) 31 ∧ Own q wa.heap.size 3 .i64 (.slice x1 cs.length y1) cs ∧ Own q wa.heap.size 3 .i64 (.slice x2 ss.length y2) ss ∧ Below (w.heap.size + 1) wa q) (listed.setIfInBounds i true) (upd u (DC i) v) wz) := hid (fun h1 h2 hi wz v hbz hv => Inv2.step i v h1 h2 hi ((hI.1 h1).1.trans (hbz.mono (hI.1 h1).1.size)) trivial (fun j hj hne => DC_ne ⟨i, hi⟩ ⟨j, hj⟩ (fun e => hne (by simpa using e))) (fun j x _ h => VC.below hbz j x h) hv)
    have HW : Hid (∀ q, Below wa.heap.size wa q → q.cell? ⟨w.heap.size, 0, none⟩ = some (.slice a0 cs.length c0) ∧ q.cell? ⟨w.heap.size, 1, none⟩ = some (.slice a1 ss.length c1) ∧ Vp q (.slice a0 cs.length c0) cs ∧ Vp q (.slice a1 ss.length c1) ss) := hid (fun q hq => ⟨(N1.out.below hq N1.out.lt).cells.1, (N1.out.below hq N1.out.lt).cells.2.1, U0.out.below (N3.out.trans (hq.mono N3.out.size)), U1.out.below (N3.out.trans (hq.mono N3.out.size))⟩)
    obtain rfl | rfl | rfl | rfl | rfl | rfl | rfl | rfl | rfl | rfl : i = 0 ∨ i = 1 ∨ i = 2 ∨ i = 3 ∨ i = 4 ∨ i = 5 ∨ i = 6 ∨ i = 7 ∨ i = 8 ∨ i = 9 := by omega
    · cases ho
      have hns := HNS.out (by decide)
      obtain ⟨hb, hX, hF⟩ := hI.1 hns
      refine wpOp_step rfl (fun K hK => ?_)
      go_simp
      refine hK _ _ ⟨upd u 3 (.slice (some ⟨wq.heap.size, 0, none⟩) 0 0), ?_, ST.out hns hF (by decide) _ _ ((Below.refl _ _).alloc (Nat.le_refl _) (.cells #[] 3)) (⟨_, rfl, Own.emptyI _ _ hb.size⟩)⟩
      simp [upd]
    · cases ho
      have hns := HNS.out (by decide)
      obtain ⟨hb, hX, hF⟩ := hI.1 hns
      refine wpOp_step rfl (fun K hK => ?_)
      go_simp
      refine hK _ _ ⟨upd u 4 (.pointer (some ⟨w.heap.size, 0, none⟩)), ?_, ST.out hns hF (by decide) _ _ (Below.refl _ _) (rfl)⟩
      simp [upd]
    · cases ho
      have hns := HNS.out (by decide)
      obtain ⟨hb, hX, hF⟩ := hI.1 hns
      have f1 : u 4 = .pointer (some ⟨w.heap.size, 0, none⟩) := hF 1 (by decide) (hall ⟨1, .data⟩ (by simp) rfl)
      obtain ⟨c0h, c1h, _, _⟩ := HW.out _ hb
      refine wpOp_step rfl (fun K hK => ?_)
      simp only [f1]
      go_simp
      refine hK _ _ ⟨upd u 5 (.slice a0 cs.length c0), ?_, ST.out hns hF (by decide) _ _ (Below.refl _ _) (rfl)⟩
      simp [upd, f1]
    · cases ho
      have hns := HNS.out (by decide)
      obtain ⟨hb, hX, hF⟩ := hI.1 hns
      obtain ⟨g0, f0, o0⟩ : ∃ g, u 3 = .slice (some ⟨g, 0, none⟩) 0 0 ∧ Own wq wa.heap.size 3 .i64 (u 3) [] := hF 0 (by decide) (hall ⟨0, .data⟩ (by simp) rfl)
      rw [f0] at o0
      have f2 : u 5 = .slice a0 cs.length c0 := hF 2 (by decide) (hall ⟨2, .data⟩ (by simp) rfl)
      obtain ⟨y, wz, hrun, oy, hbz⟩ := run_appI wq wa.heap.size g0 o0 (.slice a0 cs.length c0) cs (HW.out _ hb).2.2.1 (by omega)
      refine wpOp_step rfl (fun K hK => ?_)
      rw [if_pos (by simp [Region.wanted])]
      refine wp_app_run (.tmp 3) (.tmp 5) 22 rfl _ _ f0 f2 y wz hrun ?_
      refine hK _ _ ⟨upd u 6 (y), ?_, ST.out hns hF (by decide) wz _ hbz (oy)⟩
      rfl
    · cases ho
      have hns := HNS.out (by decide)
      obtain ⟨hb, hX, hF⟩ := hI.1 hns
      refine wpOp_step rfl (fun K hK => ?_)
      go_simp
      refine hK _ _ ⟨upd u 7 (.slice (some ⟨wq.heap.size, 0, none⟩) 0 0), ?_, ST.out hns hF (by decide) _ _ ((Below.refl _ _).alloc (Nat.le_refl _) (.cells #[] 3)) (⟨_, rfl, Own.emptyI _ _ hb.size⟩)⟩
      simp [upd]
    · cases ho
      have hns := HNS.out (by decide)
      obtain ⟨hb, hX, hF⟩ := hI.1 hns
      refine wpOp_step rfl (fun K hK => ?_)
      go_simp
      refine hK _ _ ⟨upd u 8 (.pointer (some ⟨w.heap.size, 1, none⟩)), ?_, ST.out hns hF (by decide) _ _ (Below.refl _ _) (rfl)⟩
      simp [upd]
    · cases ho
      have hns := HNS.out (by decide)
      obtain ⟨hb, hX, hF⟩ := hI.1 hns
      have f5 : u 8 = .pointer (some ⟨w.heap.size, 1, none⟩) := hF 5 (by decide) (hall ⟨5, .data⟩ (by simp) rfl)
      obtain ⟨c0h, c1h, _, _⟩ := HW.out _ hb
      refine wpOp_step rfl (fun K hK => ?_)
      simp only [f5]
      go_simp
      refine hK _ _ ⟨upd u 9 (.slice a1 ss.length c1), ?_, ST.out hns hF (by decide) _ _ (Below.refl _ _) (rfl)⟩
      simp [upd, f5]
    · cases ho
      have hns := HNS.out (by decide)
      obtain ⟨hb, hX, hF⟩ := hI.1 hns
      obtain ⟨g4, f4, o4⟩ : ∃ g, u 7 = .slice (some ⟨g, 0, none⟩) 0 0 ∧ Own wq wa.heap.size 3 .i64 (u 7) [] := hF 4 (by decide) (hall ⟨4, .data⟩ (by simp) rfl)
      rw [f4] at o4
      have f6 : u 9 = .slice a1 ss.length c1 := hF 6 (by decide) (hall ⟨6, .data⟩ (by simp) rfl)
      obtain ⟨y, wz, hrun, oy, hbz⟩ := run_appI wq wa.heap.size g4 o4 (.slice a1 ss.length c1) ss (HW.out _ hb).2.2.2 (by omega)
      refine wpOp_step rfl (fun K hK => ?_)
      rw [if_pos (by simp [Region.wanted])]
      refine wp_app_run (.tmp 7) (.tmp 9) 22 rfl _ _ f4 f6 y wz hrun ?_
      refine hK _ _ ⟨upd u 10 (y), ?_, ST.out hns hF (by decide) wz _ hbz (oy)⟩
      rfl
    · cases ho
      have hns := HNS.out (by decide)
      obtain ⟨hb, hX, hF⟩ := hI.1 hns
      have o3 : Own wq wa.heap.size 3 .i64 (u 6) cs := hF 3 (by decide) (hall ⟨3, .data⟩ (by simp) rfl)
      obtain ⟨x3, y3, f3⟩ := o3.shape
      rw [f3] at o3
      have o7 : Own wq wa.heap.size 3 .i64 (u 10) ss := hF 7 (by decide) (hall ⟨7, .data⟩ (by simp) rfl)
      obtain ⟨x7, y7, f7⟩ := o7.shape
      rw [f7] at o7
      refine wpOp_step rfl (fun K hK => ?_)
      simp only [f3, f7]
      go_simp
      refine hK _ _ ⟨upd u 11 (.agg #[.slice x3 cs.length y3, .slice x7 ss.length y7]), ?_, ST.out hns hF (by decide) _ _ (Below.refl _ _) (⟨_, _, rfl, o3, o7⟩)⟩
      simp [upd, f3, f7]
    · cases ho
      have hns : listed.getD 9 false = false := by
        cases h : listed.getD 9 false with
        | false => rfl
        | true => exact absurd hun (fun h' => getD_ft h h')
      obtain ⟨hb, hX, hF⟩ := hI.1 hns
      obtain ⟨v1, v2, f8, o1, o2⟩ : ∃ v1 v2, u 11 = .agg #[v1, v2] ∧ Own wq wa.heap.size 3 .i64 v1 cs ∧ Own wq wa.heap.size 3 .i64 v2 ss := hF 8 (by decide) (hall ⟨8, .data⟩ (by simp) rfl)
      obtain ⟨x1, y1, rfl⟩ := o1.shape
      obtain ⟨x2, y2, rfl⟩ := o2.shape
      have T := N2.out.below hb N2.out.lt
      obtain ⟨k0, k1, l0, l1⟩ := T.cells
      have HZ := hid (show ∃ xa ya xb yb, u 11 = .agg #[.slice xa cs.length ya, .slice xb ss.length yb] ∧ Two ((wq.setCell ⟨w.heap.size + 1, 0, none⟩ (.slice x1 cs.length y1)).setCell ⟨w.heap.size + 1, 1, none⟩ (.slice x2 ss.length y2)) (w.heap.size + 1) (.slice xa cs.length ya) (.slice xb ss.length yb) 31 ∧ Own ((wq.setCell ⟨w.heap.size + 1, 0, none⟩ (.slice x1 cs.length y1)).setCell ⟨w.heap.size + 1, 1, none⟩ (.slice x2 ss.length y2)) wa.heap.size 3 .i64 (.slice xa cs.length ya) cs ∧ Own ((wq.setCell ⟨w.heap.size + 1, 0, none⟩ (.slice x1 cs.length y1)).setCell ⟨w.heap.size + 1, 1, none⟩ (.slice x2 ss.length y2)) wa.heap.size 3 .i64 (.slice xb ss.length yb) ss ∧ Below (w.heap.size + 1) wa ((wq.setCell ⟨w.heap.size + 1, 0, none⟩ (.slice x1 cs.length y1)).setCell ⟨w.heap.size + 1, 1, none⟩ (.slice x2 ss.length y2)) from
        ⟨x1, y1, x2, y2, f8, (T.set0 _).set1 _, (o1.setCell_below (a := ⟨w.heap.size + 1, 0, none⟩) hlt2 _).setCell_below (a := ⟨w.heap.size + 1, 1, none⟩) hlt2 _, (o2.setCell_below (a := ⟨w.heap.size + 1, 0, none⟩) hlt2 _).setCell_below (a := ⟨w.heap.size + 1, 1, none⟩) hlt2 _, ((hb.mono (Nat.le_of_lt hlt2)).setCell (p := ⟨w.heap.size + 1, 0, none⟩) (Nat.le_refl _) _).setCell (p := ⟨w.heap.size + 1, 1, none⟩) (Nat.le_refl _) _⟩)
      clear o1 o2 T ST HW
      refine wpOp_step rfl (fun K hK => ?_)
      simp only [f8]
      go_simp
      refine hK _ _ ⟨u, ?_, ⟨fun h => absurd h (by simp [Array.getD, hszl]), fun _ => HZ.out⟩⟩
      simp [f8]
end Go.Proofs.YtnnakmgngkpghaaGreat
