/- Contracts of the copies of a disk: copyDisk of the program, l10Copy of the specification. -/
import Derived.Test.YtphhgfgmlfdkiaaOd
import Derived.Test.YtphhgfgmlfdkiaaRi
import Derived.ArgAppend
import Derived.Laws.OwnMore
namespace Go.Proofs.Ytphhgfgmlfdkiaa
open Go.RowKit
set_option linter.unusedVariables false

/-- 'append(T{}, xs...)': the copy is the call's own. -/
theorem run_app0 {P : Program} (w : World) (M : Nat) (t ty e : TypeId) (z : Value) (sz bytes : Nat) (ht : P.underlying t = some (.slice e)) (hinfo : (P.info? e).map (fun i => (i.zero, i.size, i.bytes)) = some (some z, sz, bytes)) (hzs : z.cells.size = sz) (hsz : 0 < sz)
    (g : Nat) (hown : OwG w M e sz (.slice (some ⟨g, 0, none⟩) 0 0) 0 []) (yo : Option Addr) (yn yc : Nat) (ys : List Value) (hyl : ys.length = yn * sz) (hy : Rw w yo ys) (hyo : Pc yo yn yc) (h1 : ∀ u ∈ ys, u.oneCell' = true) (hlen : yn < 1000000000) (hbytes : bytes ≤ 24) :
    ∃ v' w', (Builtin.append_ #[t, t] ty #[.slice (some ⟨g, 0, none⟩) 0 0, .slice yo yn yc]).run P w = .ok v' w' ∧ OwG w' M e sz v' yn ys ∧ Below w.heap.size w w' := by
  obtain ⟨i, hi, hz0, hz1, hz2⟩ := info_parts hinfo
  have hb := hown.1
  have hmul : (0 + yn) * bytes ≤ (0 + yn) * 24 := Nat.mul_le_mul_left _ hbytes
  rcases hyo with ⟨rfl, rfl, rfl⟩ | ⟨blk, off, rfl⟩
  · have : ys = [] := List.length_eq_zero_iff.1 (by omega)
    subst this
    exact ⟨_, w, run_append_owned_none (P := P) (w := w) M t ty e i sz ht hi _ 0 [] hown.2, hown, Below.refl _ _⟩
  · have hcell : ∀ j u, ys[j]? = some u → w.cell? (Addr.add ⟨blk, off, none⟩ j) = some u := fun j u hj => by
      obtain ⟨b', off', e', hc⟩ := hy j u hj
      cases e'
      rw [Addr.add_lit, hc]
    by_cases h0 : yn = 0
    · subst h0
      have : ys = [] := List.length_eq_zero_iff.1 (by omega)
      subst this
      subst hz1
      have hrun := run_append_room_cells (P := P) w t ty e i ht hi g 0 0 0 ⟨blk, off, none⟩ 0 yc [] (by simp) (by simp) (by simp) (by omega) (by simp) (by simp)
      exact ⟨_, _, hrun, hown, Below.refl _ _⟩
    · obtain ⟨v', w', hrun, r1, r2⟩ := run_append_arg_grows (P := P) w t ty e i z sz bytes ht hi hz0 hz1 hz2 hzs hsz ⟨g, 0, none⟩ 0 0 [] (by simp) (by simp) ⟨blk, off, none⟩ yn yc ys hyl hcell (by omega) (by unfold maxLen; omega) (by omega)
      refine ⟨v', w', hrun, ?_, ⟨r2.os, r2.tape, r2.output, r2.size, fun k hk => r2.block k hk (by simp)⟩⟩
      have h2 : OwG w' w.heap.size e sz v' yn ys := ⟨r2.size, by simpa using r1⟩
      exact h2.mono hb

theorem wp_app_run {P : Program} {o : Oper} {a : Act} {w : World} {K : Act → World → Prop} {Q : Exit → Act → World → Prop} (s x : Operand) (t : TypeId) (ho : o.op = .call { callee := .builtin .append, args := #[s, x], argTypes := #[t, t] }) (vs vx : Value) (hs : a.eval s = vs) (hx : a.eval x = vx) (v' : Value) (w' : World)
    (hrun : (Builtin.append_ #[t, t] o.type #[vs, vx]).run P w = .ok v' w') (h : K (a.put o.dst v') w') : Oper.wp P o a w K Q := by
  unfold Oper.wp
  simp [execOp, ho, resolve, invoke, builtin, hs, hx, hrun, Result.andThen]
  exact h
/-- What the operations of a copy leave. -/
def VC (S : List ByteArray) (L : List (Int × ByteArray)) (va vb : Value) (b0 b2 M : Nat) : Nat → Value → World → Prop
  | 0, u, _ => u = .pointer (some ⟨b0, 0, none⟩)
  | 1, u, _ => u = va
  | 2, u, w => OwG w M 9 1 u S.length (encS S)
  | 3, u, _ => u = .pointer (some ⟨b0, 1, none⟩)
  | 4, u, _ => u = vb
  | 5, u, w => OwG w M 69 2 u L.length (encW L)
  | 6, u, w => ∃ v1 v2, u = .agg #[v1, v2] ∧ OwG w M 9 1 v1 S.length (encS S) ∧ OwG w M 69 2 v2 L.length (encW L)
  | 7, u, w => ∃ v1 v2, u = .agg #[v1, v2] ∧ OwG w M 9 1 v1 S.length (encS S) ∧ OwG w M 69 2 v2 L.length (encW L) ∧ Blk w b2 [v1, v2] 27
  | 8, u, w => ∃ g, u = .slice (some ⟨g, 0, none⟩) 0 0 ∧ OwG w M 9 1 u 0 []
  | 9, u, w => ∃ g, u = .slice (some ⟨g, 0, none⟩) 0 0 ∧ OwG w M 69 2 u 0 []
  | _, _, _ => True
theorem VC.below {S : List ByteArray} {L : List (Int × ByteArray)} {va vb : Value} {b0 b2 M : Nat} {w w' : World} (hb : Below w.heap.size w w') : ∀ k u, VC S L va vb b0 b2 M k u w → VC S L va vb b0 b2 M k u w'
  | 0, _, h => h
  | 1, _, h => h
  | 2, _, h => OwG.below h hb
  | 3, _, h => h
  | 4, _, h => h
  | 5, _, h => OwG.below h hb
  | 6, _, ⟨v1, v2, e, h1, h2⟩ => ⟨v1, v2, e, h1.below hb, h2.below hb⟩
  | 7, _, ⟨v1, v2, e, h1, h2, h3⟩ => ⟨v1, v2, e, h1.below hb, h2.below hb, h3.below hb h3.lt⟩
  | 8, _, ⟨g, e, h⟩ => ⟨g, e, h.below hb⟩
  | 9, _, ⟨g, e, h⟩ => ⟨g, e, h.below hb⟩
  | k + 10, _, _ => trivial
/-- A store into a block below. -/
theorem VC.set {S : List ByteArray} {L : List (Int × ByteArray)} {va vb : Value} {b0 b2 M : Nat} {w : World} (hM : b2 < M) (i : Nat) (x : Value) : ∀ k u, k ≠ 7 → VC S L va vb b0 b2 M k u w → VC S L va vb b0 b2 M k u (w.setCell ⟨b2, i, none⟩ x)
  | 0, _, _, h => h
  | 1, _, _, h => h
  | 2, _, _, h => OwG.setCell_below h hM x
  | 3, _, _, h => h
  | 4, _, _, h => h
  | 5, _, _, h => OwG.setCell_below h hM x
  | 6, _, _, ⟨v1, v2, e, h1, h2⟩ => ⟨v1, v2, e, h1.setCell_below hM x, h2.setCell_below hM x⟩
  | 7, _, hk, _ => absurd rfl hk
  | 8, _, _, ⟨g, e, h⟩ => ⟨g, e, h.setCell_below hM x⟩
  | 9, _, _, ⟨g, e, h⟩ => ⟨g, e, h.setCell_below hM x⟩
  | k + 10, _, _, _ => trivial

def Ka : Nat → Nat := fun j => #[0, 1, 2, 3, 4, 5, 6, 7].getD j 99
def Da : Nat → Nat := fun j => #[3, 4, 5, 6, 7, 8, 9, 9].getD j 999
theorem Da_ne : ∀ i j : Fin 8, j ≠ i → i.val ≠ 7 → j.val ≠ 7 → Da j ≠ Da i := by decide
theorem Ka_ne : ∀ j : Fin 8, j.val ≠ 7 → Ka j ≠ 7 := by decide

set_option maxRecDepth 100000 in
set_option maxHeartbeats 3200000 in
theorem copy_disk (v : Value) (S : List ByteArray) (L : List (Int × ByteArray)) (w : World) (h1 : S.length ≤ 1048576) (h2 : L.length ≤ 1048576) (hv : DP w v S L) :
    Calls Try.prog 43 #[v] w fun e w' => ∃ v', e = .returned v' ∧ DO w' w.heap.size v' S L ∧ Below w.heap.size w w' := by
  obtain ⟨a, c, a', c', rfl, r1, r2, p1, p2⟩ := hv
  obtain ⟨n1, n2, n3⟩ := new_two w [.slice a S.length c, .slice a' L.length c'] [.slice none 0 0, .slice none 0 0] 27 27
  have N1 := hid n1
  have N2 := hid n2
  have N3 := hid n3
  have R1 := hid r1
  have R2 := hid r2
  have P1 := hid p1
  have P2 := hid p2
  clear n1 n2 n3 r1 r2 p1 p2
  go_enter Try.func43, Try.ntmps43
  go_upto_region 1 with fail
  generalize hwa : (w.alloc (.cells #[.slice a S.length c, .slice a' L.length c'] 27)).alloc (.cells #[.slice none 0 0, .slice none 0 0] 27) = wa at *
  have hlt1 := N1.out.lt
  have hlt2 := N2.out.lt
  clear hwa
  refine wp_region_any (by kernel_rfl) ?_
  refine wpAny_inv (fun listed ac wq => ∃ u : Nat → Value, ac = { tmps := #[.agg #[.slice a S.length c, .slice a' L.length c'], .pointer (some ⟨w.heap.size, 0, none⟩), .pointer (some ⟨w.heap.size + 1, 0, none⟩), u 3, u 4, u 5, u 6, u 7, u 8, u 9], defers := [] } ∧ Below (w.heap.size + 1) wa wq ∧ wa.heap.size ≤ wq.heap.size ∧ (listed.getD 7 false = false → Blk wq (w.heap.size + 1) [.slice none 0 0, .slice none 0 0] 27) ∧ Facts 8 (fun j => VC S L (.slice a S.length c) (.slice a' L.length c') w.heap.size (w.heap.size + 1) wa.heap.size (Ka j)) Da listed u wq) ?hpre ?hstep ?hend _ _ _ _ rfl (by decide) (fun j oj _ hl => absurd hl (by simp [Array.getD])) ⟨fun k => undef, rfl, (Below.refl _ _).drew, Nat.le_refl _, fun _ => N2.out, fun j hj hl => absurd hl (by simp [Array.getD])⟩
  case hpre => exact pre_of (by kernel_rfl)
  case hend =>
    rintro listed ac wq hall ⟨u, rfl, hb, hsz, hbl, hF⟩
    obtain ⟨v1, v2, e1, o1, o2, bk⟩ : ∃ v1 v2, u 9 = .agg #[v1, v2] ∧ OwG wq wa.heap.size 9 1 v1 S.length (encS S) ∧ OwG wq wa.heap.size 69 2 v2 L.length (encW L) ∧ Blk wq (w.heap.size + 1) [v1, v2] 27 := hF 7 (by decide) (hall 7 (by decide))
    obtain ⟨x1, y1, rfl, _, _⟩ := o1.shape
    obtain ⟨x2, y2, rfl, _, _⟩ := o2.shape
    have c0 := bk.cell (i := 0) rfl
    have c1 := bk.cell (i := 1) rfl
    have HO1 := hid (o1.mono (base' := w.heap.size) (by omega))
    have HO2 := hid (o2.mono (base' := w.heap.size) (by omega))
    have HB := hid (N3.out.trans (hb.mono (by omega)))
    clear hF hbl bk o1 o2
    go_wp2_with fail
    refine bodyPost_ret (v := .agg #[.slice x1 S.length y1, .slice x2 L.length y2]) (by simp [results, Try.results43, go_sem, c0, c1]) rfl ?_
    exact ⟨_, rfl, ⟨_, _, rfl, HO1.out, HO2.out⟩, HB.out⟩
  case hstep =>
    rintro listed ac wq i o hszl ⟨u, rfl, hb, hsz, hbl, hF⟩ ho hall hun hcl
    have hin : i < 8 := (Array.getElem?_eq_some_iff.1 ho).1
    have BN := N1.out.below hb (by omega)
    have c0 := BN.cell (i := 0) rfl
    have c1 := BN.cell (i := 1) rfl
    have HB3 := hid (N3.out.trans (hb.mono (by omega)))
    have HRS := hid (R1.out.below (Nat.le_refl _) HB3.out)
    have HRW := hid (R2.out.below (Nat.le_refl _) HB3.out)
    have ST : Hid (i ≠ 7 → listed.getD 7 false = false → ∀ (wz : World) (v : Value), Below wq.heap.size wq wz → (fun j => VC S L (.slice a S.length c) (.slice a' L.length c') w.heap.size (w.heap.size + 1) wa.heap.size (Ka j)) i v wz → Below (w.heap.size + 1) wa wz ∧ wa.heap.size ≤ wz.heap.size ∧ ((listed.setIfInBounds i true).getD 7 false = false → Blk wz (w.heap.size + 1) [.slice none 0 0, .slice none 0 0] 27) ∧ Facts 8 (fun j => VC S L (.slice a S.length c) (.slice a' L.length c') w.heap.size (w.heap.size + 1) wa.heap.size (Ka j)) Da (listed.setIfInBounds i true) (upd u (Da i) v) wz) := fun h1 h2 wz v hbz hv => ⟨hb.trans (hbz.mono (by omega)), Nat.le_trans hsz hbz.size, fun _ => (hbl h2).below hbz (hbl h2).lt, hF.step i v (fun j hj hne hl => Da_ne ⟨i, hin⟩ ⟨j, hj⟩ (fun e => hne (congrArg Fin.val e)) h1 (fun e => by have e' : j = 7 := e; subst e'; rw [h2] at hl; cases hl)) (fun j x _ h => VC.below hbz _ _ h) hv⟩
    clear BN
    obtain rfl | rfl | rfl | rfl | rfl | rfl | rfl | rfl : i = 0 ∨ i = 1 ∨ i = 2 ∨ i = 3 ∨ i = 4 ∨ i = 5 ∨ i = 6 ∨ i = 7 := by omega
    · cases ho
      have hns : listed.getD 7 false = false := by
        cases hl : listed.getD 7 false with
        | false => rfl
        | true =>
          have := hcl 7 _ rfl hl ⟨0, .phase⟩ (by simp) rfl
          simp only at this
          have h9 : listed.getD 0 true = true := by
            simp only [Array.getD] at this ⊢
            split at this <;> simp_all
          rw [h9] at hun
          cases hun
      refine wpOp_step rfl (fun K hK => ?_)
      go_simp
      refine hK _ _ ⟨upd u 3 (.pointer (some ⟨w.heap.size, 0, none⟩)), ?_, ST.out (by decide) hns _ _ (Below.refl _ _) rfl⟩
      simp [upd]
    · cases ho
      have hns : listed.getD 7 false = false := by
        cases hl : listed.getD 7 false with
        | false => rfl
        | true =>
          have := hcl 7 _ rfl hl ⟨1, .phase⟩ (by simp) rfl
          simp only at this
          have h9 : listed.getD 1 true = true := by
            simp only [Array.getD] at this ⊢
            split at this <;> simp_all
          rw [h9] at hun
          cases hun
      have f0 : u 3 = .pointer (some ⟨w.heap.size, 0, none⟩) := hF 0 (by decide) (hall ⟨0, .data⟩ (by simp) rfl)
      refine wpOp_step rfl (fun K hK => ?_)
      simp only [f0]
      go_simp
      refine hK _ _ ⟨upd u 4 (.slice a S.length c), ?_, ST.out (by decide) hns _ _ (Below.refl _ _) rfl⟩
      simp [upd, f0]
    · cases ho
      have hns : listed.getD 7 false = false := by
        cases hl : listed.getD 7 false with
        | false => rfl
        | true =>
          have := hcl 7 _ rfl hl ⟨2, .phase⟩ (by simp) rfl
          simp only at this
          have h9 : listed.getD 2 true = true := by
            simp only [Array.getD] at this ⊢
            split at this <;> simp_all
          rw [h9] at hun
          cases hun
      have f1 : u 4 = .slice a S.length c := hF 1 (by decide) (hall ⟨1, .data⟩ (by simp) rfl)
      refine wpOp_step rfl (fun K hK => ?_)
      simp only [f1]
      go_simp
      go_wp2_with (go_at_call 72; refine (clone_s a c S wq h1 HRS.out P1.out).mono ?_; rintro e wz ⟨y, rfl, oy, hbz⟩)
      first | refine hK _ _ ⟨upd u 5 y, ?_, ST.out (by decide) hns _ _ hbz (oy.mono hsz)⟩ | refine ⟨upd u 5 y, ?_, ST.out (by decide) hns _ _ hbz (oy.mono hsz)⟩
      simp [upd, f1]
    · cases ho
      have hns : listed.getD 7 false = false := by
        cases hl : listed.getD 7 false with
        | false => rfl
        | true =>
          have := hcl 7 _ rfl hl ⟨3, .phase⟩ (by simp) rfl
          simp only at this
          have h9 : listed.getD 3 true = true := by
            simp only [Array.getD] at this ⊢
            split at this <;> simp_all
          rw [h9] at hun
          cases hun
      refine wpOp_step rfl (fun K hK => ?_)
      go_simp
      refine hK _ _ ⟨upd u 6 (.pointer (some ⟨w.heap.size, 1, none⟩)), ?_, ST.out (by decide) hns _ _ (Below.refl _ _) rfl⟩
      simp [upd]
    · cases ho
      have hns : listed.getD 7 false = false := by
        cases hl : listed.getD 7 false with
        | false => rfl
        | true =>
          have := hcl 7 _ rfl hl ⟨4, .phase⟩ (by simp) rfl
          simp only at this
          have h9 : listed.getD 4 true = true := by
            simp only [Array.getD] at this ⊢
            split at this <;> simp_all
          rw [h9] at hun
          cases hun
      have f3 : u 6 = .pointer (some ⟨w.heap.size, 1, none⟩) := hF 3 (by decide) (hall ⟨3, .data⟩ (by simp) rfl)
      refine wpOp_step rfl (fun K hK => ?_)
      simp only [f3]
      go_simp
      refine hK _ _ ⟨upd u 7 (.slice a' L.length c'), ?_, ST.out (by decide) hns _ _ (Below.refl _ _) rfl⟩
      simp [upd, f3]
    · cases ho
      have hns : listed.getD 7 false = false := by
        cases hl : listed.getD 7 false with
        | false => rfl
        | true =>
          have := hcl 7 _ rfl hl ⟨5, .phase⟩ (by simp) rfl
          simp only at this
          have h9 : listed.getD 5 true = true := by
            simp only [Array.getD] at this ⊢
            split at this <;> simp_all
          rw [h9] at hun
          cases hun
      have f4 : u 7 = .slice a' L.length c' := hF 4 (by decide) (hall ⟨4, .data⟩ (by simp) rfl)
      refine wpOp_step rfl (fun K hK => ?_)
      simp only [f4]
      go_simp
      go_wp2_with (go_at_call 73; refine (clone_w a' c' L wq h2 HRW.out P2.out).mono ?_; rintro e wz ⟨y, rfl, oy, hbz⟩)
      first | refine hK _ _ ⟨upd u 8 y, ?_, ST.out (by decide) hns _ _ hbz (oy.mono hsz)⟩ | refine ⟨upd u 8 y, ?_, ST.out (by decide) hns _ _ hbz (oy.mono hsz)⟩
      simp [upd, f4]
    · cases ho
      have hns : listed.getD 7 false = false := by
        cases hl : listed.getD 7 false with
        | false => rfl
        | true =>
          have := hcl 7 _ rfl hl ⟨6, .phase⟩ (by simp) rfl
          simp only at this
          have h9 : listed.getD 6 true = true := by
            simp only [Array.getD] at this ⊢
            split at this <;> simp_all
          rw [h9] at hun
          cases hun
      have o2 : OwG wq wa.heap.size 9 1 (u 5) S.length (encS S) := hF 2 (by decide) (hall ⟨2, .data⟩ (by simp) rfl)
      obtain ⟨x2, y2, f2, _, _⟩ := o2.shape
      rw [f2] at o2
      have o5 : OwG wq wa.heap.size 69 2 (u 8) L.length (encW L) := hF 5 (by decide) (hall ⟨5, .data⟩ (by simp) rfl)
      obtain ⟨x5, y5, f5, _, _⟩ := o5.shape
      rw [f5] at o5
      refine wpOp_step rfl (fun K hK => ?_)
      simp only [f2, f5]
      go_simp
      refine hK _ _ ⟨upd u 9 (.agg #[.slice x2 S.length y2, .slice x5 L.length y5]), ?_, ST.out (by decide) hns _ _ (Below.refl _ _) ⟨_, _, rfl, o2, o5⟩⟩
      simp [upd, f2, f5]
    · cases ho
      obtain ⟨v1, v2, f6, o1, o2⟩ : ∃ v1 v2, u 9 = .agg #[v1, v2] ∧ OwG wq wa.heap.size 9 1 v1 S.length (encS S) ∧ OwG wq wa.heap.size 69 2 v2 L.length (encW L) := hF 6 (by decide) (hall ⟨6, .data⟩ (by simp) rfl)
      obtain ⟨x1, y1, rfl, _, _⟩ := o1.shape
      obtain ⟨x2, y2, rfl, _, _⟩ := o2.shape
      have bk := hbl (by simp only [Array.getD] at hun ⊢; split at hun <;> simp_all)
      have k0 := bk.cell (i := 0) rfl
      have k1 := bk.cell (i := 1) rfl
      have l0 := bk.free 0
      have l1 := bk.free 1
      have bk2 := (bk.set 0 (.slice x1 S.length y1)).set 1 (.slice x2 L.length y2)
      have HBZ := hid ((hb.setCell (p := ⟨w.heap.size + 1, 0, none⟩) (Nat.le_refl _) (.slice x1 S.length y1)).setCell (p := ⟨w.heap.size + 1, 1, none⟩) (Nat.le_refl _) (.slice x2 L.length y2))
      have HF : Hid (Facts 8 (fun j => VC S L (.slice a S.length c) (.slice a' L.length c') w.heap.size (w.heap.size + 1) wa.heap.size (Ka j)) Da (listed.setIfInBounds 7 true) u ((wq.setCell ⟨w.heap.size + 1, 0, none⟩ (.slice x1 S.length y1)).setCell ⟨w.heap.size + 1, 1, none⟩ (.slice x2 L.length y2))) := hid (by
        intro j hj hl
        by_cases e : j = 7
        · subst e
          exact ⟨_, _, f6, (o1.setCell_below hlt2 _).setCell_below hlt2 _, (o2.setCell_below hlt2 _).setCell_below hlt2 _, bk2⟩
        · rw [getD_set_ne false (fun h => e h.symm)] at hl
          exact VC.set hlt2 1 _ _ _ (Ka_ne ⟨j, hj⟩ e) (VC.set hlt2 0 _ _ _ (Ka_ne ⟨j, hj⟩ e) (hF j hj hl)))
      clear bk2 ST
      refine wpOp_step rfl (fun K hK => ?_)
      simp only [f6]
      go_simp
      refine hK _ _ ⟨u, ?_, HBZ.out, by simpa [World.setCell] using hsz, fun h => ?_, HF.out⟩
      · simp [f6]
      · simp [Array.getD, hszl] at h

def Kb : Nat → Nat := fun j => #[8, 0, 1, 2, 9, 3, 4, 5, 6, 7].getD j 99
def Db : Nat → Nat := fun j => #[3, 4, 5, 6, 7, 8, 9, 10, 11, 11].getD j 999
theorem Db_ne : ∀ i j : Fin 10, j ≠ i → i.val ≠ 9 → j.val ≠ 9 → Db j ≠ Db i := by decide
theorem Kb_ne : ∀ j : Fin 10, j.val ≠ 9 → Kb j ≠ 7 := by decide

set_option maxRecDepth 100000 in
set_option maxHeartbeats 3200000 in
theorem spec_copy (v : Value) (S : List ByteArray) (L : List (Int × ByteArray)) (w : World) (h1 : S.length ≤ 1048576) (h2 : L.length ≤ 1048576) (hv : DP w v S L) :
    Calls Try.prog 58 #[v] w fun e w' => ∃ v', e = .returned v' ∧ DO w' w.heap.size v' S L ∧ Below w.heap.size w w' := by
  obtain ⟨a, c, a', c', rfl, r1, r2, p1, p2⟩ := hv
  obtain ⟨n1, n2, n3⟩ := new_two w [.slice a S.length c, .slice a' L.length c'] [.slice none 0 0, .slice none 0 0] 27 27
  have N1 := hid n1
  have N2 := hid n2
  have N3 := hid n3
  have R1 := hid r1
  have R2 := hid r2
  have P1 := hid p1
  have P2 := hid p2
  clear n1 n2 n3 r1 r2 p1 p2
  go_enter Try.func58, Try.ntmps58
  go_upto_region 1 with fail
  generalize hwa : (w.alloc (.cells #[.slice a S.length c, .slice a' L.length c'] 27)).alloc (.cells #[.slice none 0 0, .slice none 0 0] 27) = wa at *
  have hlt1 := N1.out.lt
  have hlt2 := N2.out.lt
  clear hwa
  refine wp_region_any (by kernel_rfl) ?_
  refine wpAny_inv (fun listed ac wq => ∃ u : Nat → Value, ac = { tmps := #[.agg #[.slice a S.length c, .slice a' L.length c'], .pointer (some ⟨w.heap.size, 0, none⟩), .pointer (some ⟨w.heap.size + 1, 0, none⟩), u 3, u 4, u 5, u 6, u 7, u 8, u 9, u 10, u 11], defers := [] } ∧ Below (w.heap.size + 1) wa wq ∧ wa.heap.size ≤ wq.heap.size ∧ (listed.getD 9 false = false → Blk wq (w.heap.size + 1) [.slice none 0 0, .slice none 0 0] 27) ∧ Facts 10 (fun j => VC S L (.slice a S.length c) (.slice a' L.length c') w.heap.size (w.heap.size + 1) wa.heap.size (Kb j)) Db listed u wq) ?hpre ?hstep ?hend _ _ _ _ rfl (by decide) (fun j oj _ hl => absurd hl (by simp [Array.getD])) ⟨fun k => undef, rfl, (Below.refl _ _).drew, Nat.le_refl _, fun _ => N2.out, fun j hj hl => absurd hl (by simp [Array.getD])⟩
  case hpre => exact pre_of (by kernel_rfl)
  case hend =>
    rintro listed ac wq hall ⟨u, rfl, hb, hsz, hbl, hF⟩
    obtain ⟨v1, v2, e1, o1, o2, bk⟩ : ∃ v1 v2, u 11 = .agg #[v1, v2] ∧ OwG wq wa.heap.size 9 1 v1 S.length (encS S) ∧ OwG wq wa.heap.size 69 2 v2 L.length (encW L) ∧ Blk wq (w.heap.size + 1) [v1, v2] 27 := hF 9 (by decide) (hall 9 (by decide))
    obtain ⟨x1, y1, rfl, _, _⟩ := o1.shape
    obtain ⟨x2, y2, rfl, _, _⟩ := o2.shape
    have c0 := bk.cell (i := 0) rfl
    have c1 := bk.cell (i := 1) rfl
    have HO1 := hid (o1.mono (base' := w.heap.size) (by omega))
    have HO2 := hid (o2.mono (base' := w.heap.size) (by omega))
    have HB := hid (N3.out.trans (hb.mono (by omega)))
    clear hF hbl bk o1 o2
    go_wp2_with fail
    refine bodyPost_ret (v := .agg #[.slice x1 S.length y1, .slice x2 L.length y2]) (by simp [results, Try.results58, go_sem, c0, c1]) rfl ?_
    exact ⟨_, rfl, ⟨_, _, rfl, HO1.out, HO2.out⟩, HB.out⟩
  case hstep =>
    rintro listed ac wq i o hszl ⟨u, rfl, hb, hsz, hbl, hF⟩ ho hall hun hcl
    have hin : i < 10 := (Array.getElem?_eq_some_iff.1 ho).1
    have BN := N1.out.below hb (by omega)
    have c0 := BN.cell (i := 0) rfl
    have c1 := BN.cell (i := 1) rfl
    have HB3 := hid (N3.out.trans (hb.mono (by omega)))
    have HRS := hid (R1.out.below (Nat.le_refl _) HB3.out)
    have HRW := hid (R2.out.below (Nat.le_refl _) HB3.out)
    have ST : Hid (i ≠ 9 → listed.getD 9 false = false → ∀ (wz : World) (v : Value), Below wq.heap.size wq wz → (fun j => VC S L (.slice a S.length c) (.slice a' L.length c') w.heap.size (w.heap.size + 1) wa.heap.size (Kb j)) i v wz → Below (w.heap.size + 1) wa wz ∧ wa.heap.size ≤ wz.heap.size ∧ ((listed.setIfInBounds i true).getD 9 false = false → Blk wz (w.heap.size + 1) [.slice none 0 0, .slice none 0 0] 27) ∧ Facts 10 (fun j => VC S L (.slice a S.length c) (.slice a' L.length c') w.heap.size (w.heap.size + 1) wa.heap.size (Kb j)) Db (listed.setIfInBounds i true) (upd u (Db i) v) wz) := fun h1 h2 wz v hbz hv => ⟨hb.trans (hbz.mono (by omega)), Nat.le_trans hsz hbz.size, fun _ => (hbl h2).below hbz (hbl h2).lt, hF.step i v (fun j hj hne hl => Db_ne ⟨i, hin⟩ ⟨j, hj⟩ (fun e => hne (congrArg Fin.val e)) h1 (fun e => by have e' : j = 9 := e; subst e'; rw [h2] at hl; cases hl)) (fun j x _ h => VC.below hbz _ _ h) hv⟩
    clear BN
    obtain rfl | rfl | rfl | rfl | rfl | rfl | rfl | rfl | rfl | rfl : i = 0 ∨ i = 1 ∨ i = 2 ∨ i = 3 ∨ i = 4 ∨ i = 5 ∨ i = 6 ∨ i = 7 ∨ i = 8 ∨ i = 9 := by omega
    · cases ho
      have hns : listed.getD 9 false = false := by
        cases hl : listed.getD 9 false with
        | false => rfl
        | true =>
          have := hcl 9 _ rfl hl ⟨0, .phase⟩ (by simp) rfl
          simp only at this
          have h9 : listed.getD 0 true = true := by
            simp only [Array.getD] at this ⊢
            split at this <;> simp_all
          rw [h9] at hun
          cases hun
      have hbz := (Below.refl wq.heap.size wq).alloc (Nat.le_refl _) (.cells #[] 9)
      refine wpOp_step rfl (fun K hK => ?_)
      go_simp
      refine hK _ _ ⟨upd u 3 (.slice (some ⟨wq.heap.size, 0, none⟩) 0 0), ?_, ST.out (by decide) hns _ _ hbz ⟨_, rfl, OwG.empty wq wa.heap.size 9 1 hsz⟩⟩
      simp [upd]
    · cases ho
      have hns : listed.getD 9 false = false := by
        cases hl : listed.getD 9 false with
        | false => rfl
        | true =>
          have := hcl 9 _ rfl hl ⟨1, .phase⟩ (by simp) rfl
          simp only at this
          have h9 : listed.getD 1 true = true := by
            simp only [Array.getD] at this ⊢
            split at this <;> simp_all
          rw [h9] at hun
          cases hun
      refine wpOp_step rfl (fun K hK => ?_)
      go_simp
      refine hK _ _ ⟨upd u 4 (.pointer (some ⟨w.heap.size, 0, none⟩)), ?_, ST.out (by decide) hns _ _ (Below.refl _ _) rfl⟩
      simp [upd]
    · cases ho
      have hns : listed.getD 9 false = false := by
        cases hl : listed.getD 9 false with
        | false => rfl
        | true =>
          have := hcl 9 _ rfl hl ⟨2, .phase⟩ (by simp) rfl
          simp only at this
          have h9 : listed.getD 2 true = true := by
            simp only [Array.getD] at this ⊢
            split at this <;> simp_all
          rw [h9] at hun
          cases hun
      have f1 : u 4 = .pointer (some ⟨w.heap.size, 0, none⟩) := hF 1 (by decide) (hall ⟨1, .data⟩ (by simp) rfl)
      refine wpOp_step rfl (fun K hK => ?_)
      simp only [f1]
      go_simp
      refine hK _ _ ⟨upd u 5 (.slice a S.length c), ?_, ST.out (by decide) hns _ _ (Below.refl _ _) rfl⟩
      simp [upd, f1]
    · cases ho
      have hns : listed.getD 9 false = false := by
        cases hl : listed.getD 9 false with
        | false => rfl
        | true =>
          have := hcl 9 _ rfl hl ⟨3, .phase⟩ (by simp) rfl
          simp only at this
          have h9 : listed.getD 3 true = true := by
            simp only [Array.getD] at this ⊢
            split at this <;> simp_all
          rw [h9] at hun
          cases hun
      obtain ⟨g, f0, o0⟩ : ∃ g, u 3 = .slice (some ⟨g, 0, none⟩) 0 0 ∧ OwG wq wa.heap.size 9 1 (u 3) 0 [] := hF 0 (by decide) (hall ⟨0, .data⟩ (by simp) rfl)
      rw [f0] at o0
      have f2 : u 5 = .slice a S.length c := hF 2 (by decide) (hall ⟨2, .data⟩ (by simp) rfl)
      obtain ⟨y, wz, hrun, oy, hbz⟩ := run_app0 (P := Try.prog) wq wa.heap.size 24 24 9 (.string ByteArray.empty) 1 16 Try.underlying24 Try.info9 rfl (by decide) g o0 a S.length c (encS S) (encS_len S) HRS.out P1.out (encS_one S) (by omega) (by decide)
      refine wpOp_step rfl (fun K hK => ?_)
      rw [if_pos (by simp [Region.wanted])]
      refine wp_app_run (.tmp 3) (.tmp 5) 24 rfl _ _ f0 f2 y wz hrun ?_
      refine hK _ _ ⟨upd u 6 y, ?_, ST.out (by decide) hns _ _ hbz oy⟩
      rfl
    · cases ho
      have hns : listed.getD 9 false = false := by
        cases hl : listed.getD 9 false with
        | false => rfl
        | true =>
          have := hcl 9 _ rfl hl ⟨4, .phase⟩ (by simp) rfl
          simp only at this
          have h9 : listed.getD 4 true = true := by
            simp only [Array.getD] at this ⊢
            split at this <;> simp_all
          rw [h9] at hun
          cases hun
      have hbz := (Below.refl wq.heap.size wq).alloc (Nat.le_refl _) (.cells #[] 69)
      refine wpOp_step rfl (fun K hK => ?_)
      go_simp
      refine hK _ _ ⟨upd u 7 (.slice (some ⟨wq.heap.size, 0, none⟩) 0 0), ?_, ST.out (by decide) hns _ _ hbz ⟨_, rfl, OwG.empty wq wa.heap.size 69 2 hsz⟩⟩
      simp [upd]
    · cases ho
      have hns : listed.getD 9 false = false := by
        cases hl : listed.getD 9 false with
        | false => rfl
        | true =>
          have := hcl 9 _ rfl hl ⟨5, .phase⟩ (by simp) rfl
          simp only at this
          have h9 : listed.getD 5 true = true := by
            simp only [Array.getD] at this ⊢
            split at this <;> simp_all
          rw [h9] at hun
          cases hun
      refine wpOp_step rfl (fun K hK => ?_)
      go_simp
      refine hK _ _ ⟨upd u 8 (.pointer (some ⟨w.heap.size, 1, none⟩)), ?_, ST.out (by decide) hns _ _ (Below.refl _ _) rfl⟩
      simp [upd]
    · cases ho
      have hns : listed.getD 9 false = false := by
        cases hl : listed.getD 9 false with
        | false => rfl
        | true =>
          have := hcl 9 _ rfl hl ⟨6, .phase⟩ (by simp) rfl
          simp only at this
          have h9 : listed.getD 6 true = true := by
            simp only [Array.getD] at this ⊢
            split at this <;> simp_all
          rw [h9] at hun
          cases hun
      have f5 : u 8 = .pointer (some ⟨w.heap.size, 1, none⟩) := hF 5 (by decide) (hall ⟨5, .data⟩ (by simp) rfl)
      refine wpOp_step rfl (fun K hK => ?_)
      simp only [f5]
      go_simp
      refine hK _ _ ⟨upd u 9 (.slice a' L.length c'), ?_, ST.out (by decide) hns _ _ (Below.refl _ _) rfl⟩
      simp [upd, f5]
    · cases ho
      have hns : listed.getD 9 false = false := by
        cases hl : listed.getD 9 false with
        | false => rfl
        | true =>
          have := hcl 9 _ rfl hl ⟨7, .phase⟩ (by simp) rfl
          simp only at this
          have h9 : listed.getD 7 true = true := by
            simp only [Array.getD] at this ⊢
            split at this <;> simp_all
          rw [h9] at hun
          cases hun
      obtain ⟨g, f4, o4⟩ : ∃ g, u 7 = .slice (some ⟨g, 0, none⟩) 0 0 ∧ OwG wq wa.heap.size 69 2 (u 7) 0 [] := hF 4 (by decide) (hall ⟨4, .data⟩ (by simp) rfl)
      rw [f4] at o4
      have f6 : u 9 = .slice a' L.length c' := hF 6 (by decide) (hall ⟨6, .data⟩ (by simp) rfl)
      obtain ⟨y, wz, hrun, oy, hbz⟩ := run_app0 (P := Try.prog) wq wa.heap.size 25 25 69 (.agg #[.int .i64 0, .string ByteArray.empty]) 2 24 Try.underlying25 Try.info69 rfl (by decide) g o4 a' L.length c' (encW L) (encW_len L) HRW.out P2.out (encW_one L) (by omega) (by decide)
      refine wpOp_step rfl (fun K hK => ?_)
      rw [if_pos (by simp [Region.wanted])]
      refine wp_app_run (.tmp 7) (.tmp 9) 25 rfl _ _ f4 f6 y wz hrun ?_
      refine hK _ _ ⟨upd u 10 y, ?_, ST.out (by decide) hns _ _ hbz oy⟩
      rfl
    · cases ho
      have hns : listed.getD 9 false = false := by
        cases hl : listed.getD 9 false with
        | false => rfl
        | true =>
          have := hcl 9 _ rfl hl ⟨8, .phase⟩ (by simp) rfl
          simp only at this
          have h9 : listed.getD 8 true = true := by
            simp only [Array.getD] at this ⊢
            split at this <;> simp_all
          rw [h9] at hun
          cases hun
      have o3 : OwG wq wa.heap.size 9 1 (u 6) S.length (encS S) := hF 3 (by decide) (hall ⟨3, .data⟩ (by simp) rfl)
      obtain ⟨x3, y3, f3, _, _⟩ := o3.shape
      rw [f3] at o3
      have o7 : OwG wq wa.heap.size 69 2 (u 10) L.length (encW L) := hF 7 (by decide) (hall ⟨7, .data⟩ (by simp) rfl)
      obtain ⟨x7, y7, f7, _, _⟩ := o7.shape
      rw [f7] at o7
      refine wpOp_step rfl (fun K hK => ?_)
      simp only [f3, f7]
      go_simp
      refine hK _ _ ⟨upd u 11 (.agg #[.slice x3 S.length y3, .slice x7 L.length y7]), ?_, ST.out (by decide) hns _ _ (Below.refl _ _) ⟨_, _, rfl, o3, o7⟩⟩
      simp [upd, f3, f7]
    · cases ho
      obtain ⟨v1, v2, f8, o1, o2⟩ : ∃ v1 v2, u 11 = .agg #[v1, v2] ∧ OwG wq wa.heap.size 9 1 v1 S.length (encS S) ∧ OwG wq wa.heap.size 69 2 v2 L.length (encW L) := hF 8 (by decide) (hall ⟨8, .data⟩ (by simp) rfl)
      obtain ⟨x1, y1, rfl, _, _⟩ := o1.shape
      obtain ⟨x2, y2, rfl, _, _⟩ := o2.shape
      have bk := hbl (by simp only [Array.getD] at hun ⊢; split at hun <;> simp_all)
      have k0 := bk.cell (i := 0) rfl
      have k1 := bk.cell (i := 1) rfl
      have l0 := bk.free 0
      have l1 := bk.free 1
      have bk2 := (bk.set 0 (.slice x1 S.length y1)).set 1 (.slice x2 L.length y2)
      have HBZ := hid ((hb.setCell (p := ⟨w.heap.size + 1, 0, none⟩) (Nat.le_refl _) (.slice x1 S.length y1)).setCell (p := ⟨w.heap.size + 1, 1, none⟩) (Nat.le_refl _) (.slice x2 L.length y2))
      have HF : Hid (Facts 10 (fun j => VC S L (.slice a S.length c) (.slice a' L.length c') w.heap.size (w.heap.size + 1) wa.heap.size (Kb j)) Db (listed.setIfInBounds 9 true) u ((wq.setCell ⟨w.heap.size + 1, 0, none⟩ (.slice x1 S.length y1)).setCell ⟨w.heap.size + 1, 1, none⟩ (.slice x2 L.length y2))) := hid (by
        intro j hj hl
        by_cases e : j = 9
        · subst e
          exact ⟨_, _, f8, (o1.setCell_below hlt2 _).setCell_below hlt2 _, (o2.setCell_below hlt2 _).setCell_below hlt2 _, bk2⟩
        · rw [getD_set_ne false (fun h => e h.symm)] at hl
          exact VC.set hlt2 1 _ _ _ (Kb_ne ⟨j, hj⟩ e) (VC.set hlt2 0 _ _ _ (Kb_ne ⟨j, hj⟩ e) (hF j hj hl)))
      clear bk2 ST
      refine wpOp_step rfl (fun K hK => ?_)
      simp only [f8]
      go_simp
      refine hK _ _ ⟨u, ?_, HBZ.out, by simpa [World.setCell] using hsz, fun h => ?_, HF.out⟩
      · simp [f8]
      · simp [Array.getD, hszl] at h

end Go.Proofs.Ytphhgfgmlfdkiaa
