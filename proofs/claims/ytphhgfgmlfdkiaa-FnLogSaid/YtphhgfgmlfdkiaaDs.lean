/- DrawLogStory; the byte of a text that a law asks for. -/
import Derived.Test.YtphhgfgmlfdkiaaDlo
namespace Go.Proofs.Ytphhgfgmlfdkiaa
open Go.RowKit
set_option linter.unusedVariables false

theorem seven {A : Array Bool} (h : A.size = 7) : ∃ b0 b1 b2 b3 b4 b5 b6, A = #[b0, b1, b2, b3, b4, b5, b6] := by
  obtain ⟨l⟩ := A
  match l, h with
  | [b0, b1, b2, b3, b4, b5, b6], _ => exact ⟨b0, b1, b2, b3, b4, b5, b6, rfl⟩

set_option maxRecDepth 100000 in
set_option maxHeartbeats 6400000 in
theorem story_region (zp : String) (w0 : World) (ao : Option Addr) (n cap C n0 rb : Nat) (zs : List Int) (tv t0 t1 t7 t9 t10 t11 t12 t13 t14 t15 t16 t17 t18 t19 t20 t21 t22 t23 t24 t25 t26 t27 t28 t29 t30 t31 t32 t33 s3 s4 s34 s35 s36 s37 : Value) (a : Option Addr) (c : Nat) (a' : Option Addr) (c' : Nat) (S : List ByteArray) (L : List (Int × ByteArray)) (Q : Exit → Act → World → Prop) (w2 : World) (hcode : Code w0 ao n zs) (hcur : Cur w0 ao n cap C w2)
    (hn0 : n0 ≠ C) (hrb : rb ≠ C) (N : Blk w2 n0 [.slice a S.length c, .slice a' L.length c'] 27) (R : Blk w2 rb [.slice none 0 0, .slice none 0 0] 27)
    (hQ : ∀ (ks : List Int) u34 u35 u36 u37 wz, ks.length ≤ 100 → Own wz w2.heap.size 3 .i64 u37 ks → Cur w0 ao n cap C wz → Eff C w2 wz → Q .normal { tmps := #[t0, t1, .pointer (some ⟨rb, 0, none⟩), tv, u37, .pointer (some ⟨C, 0, none⟩), .pointer (some ⟨n0, 0, none⟩), t7, tv, t9, t10, t11, t12, t13, t14, t15, t16, t17, t18, t19, t20, t21, t22, t23, t24, t25, t26, t27, t28, t29, t30, t31, t32, t33, u34, u35, u36, u37], defers := [] } ((wz.setCell ⟨rb, 0, none⟩ (.slice a S.length c)).setCell ⟨rb, 1, none⟩ (.slice a' L.length c'))) :
    (Code.region 9 #[{ dst := some 34, op := Op.load 27 (Operand.tmp 6), type := 27, pos := zp, after := #[], guard := none }, { dst := some 35, op := Op.move (Operand.tmp 8), type := 24, pos := zp, after := #[{ on := 4, ground := Ground.gcOnly Departure.lateStores }], guard := none }, { dst := some 36, op := Op.move (Operand.tmp 5), type := 60, pos := zp, after := #[], guard := none }, { dst := some 37, op := Op.call { callee := Callee.value (Operand.func 41), args := #[Operand.tmp 36, Operand.const (Value.int IntKind.i64 20)], argTypes := #[60, 3] }, type := 28, pos := zp, after := #[{ on := 2, ground := Ground.data }], guard := none }, { dst := none, op := Op.store 27 (Operand.tmp 2) (Operand.tmp 34), type := 0, pos := zp, after := #[{ on := 0, ground := Ground.data }, { on := 3, ground := Ground.chain }, { on := 0, ground := Ground.phase }, { on := 1, ground := Ground.textOnly Departure.lateStores }, { on := 2, ground := Ground.textOnly Departure.lateStores }, { on := 3, ground := Ground.textOnly Departure.lateStoresUnsure }], guard := none }, { dst := some 3, op := Op.assign (Operand.tmp 35), type := 24, pos := zp, after := #[{ on := 1, ground := Ground.data }, { on := 4, ground := Ground.chain }, { on := 0, ground := Ground.phase }, { on := 1, ground := Ground.phase }, { on := 2, ground := Ground.textOnly Departure.lateStores }, { on := 3, ground := Ground.textOnly Departure.lateStoresUnsure }, { on := 4, ground := Ground.phase }], guard := none }, { dst := some 4, op := Op.assign (Operand.tmp 37), type := 28, pos := zp, after := #[{ on := 3, ground := Ground.data }, { on := 5, ground := Ground.chain }, { on := 0, ground := Ground.phase }, { on := 1, ground := Ground.phase }, { on := 2, ground := Ground.phase }, { on := 3, ground := Ground.phase }, { on := 4, ground := Ground.phase }, { on := 5, ground := Ground.phase }], guard := none }] true).wp Try.prog Q { tmps := #[t0, t1, .pointer (some ⟨rb, 0, none⟩), s3, s4, .pointer (some ⟨C, 0, none⟩), .pointer (some ⟨n0, 0, none⟩), t7, tv, t9, t10, t11, t12, t13, t14, t15, t16, t17, t18, t19, t20, t21, t22, t23, t24, t25, t26, t27, t28, t29, t30, t31, t32, t33, s34, s35, s36, s37], defers := [] } w2 := by
  have HQ := hid hQ
  clear hQ
  have HCO := hid hcode
  have HU0 := hid hcur
  clear hcode hcur
  refine wp_region_any (by kernel_rfl) ?_
  refine wpAny_inv (fun listed ac wq => ∃ ks u3 u4 u34 u35 u36 u37 wz, ac = { tmps := #[t0, t1, .pointer (some ⟨rb, 0, none⟩), u3, u4, .pointer (some ⟨C, 0, none⟩), .pointer (some ⟨n0, 0, none⟩), t7, tv, t9, t10, t11, t12, t13, t14, t15, t16, t17, t18, t19, t20, t21, t22, t23, t24, t25, t26, t27, t28, t29, t30, t31, t32, t33, u34, u35, u36, u37], defers := [] } ∧ (listed.getD 0 false = true → u34 = (.agg #[.slice a S.length c, .slice a' L.length c'])) ∧ (listed.getD 1 false = true → u35 = tv) ∧ (listed.getD 2 false = true → u36 = .pointer (some ⟨C, 0, none⟩)) ∧ (listed.getD 3 false = true → ks.length ≤ 100 ∧ Own wz w2.heap.size 3 .i64 u37 ks) ∧ (listed.getD 5 false = true → u3 = tv) ∧ (listed.getD 6 false = true → u4 = u37) ∧ (wq = if listed.getD 4 false = true then ((wz.setCell ⟨rb, 0, none⟩ (.slice a S.length c)).setCell ⟨rb, 1, none⟩ (.slice a' L.length c')) else wz) ∧ Cur w0 ao n cap C wz ∧ Eff C w2 wz) ?hpre ?hstep ?hend _ _ _ _ rfl (Nat.le_refl 7) (fun j oj _ hl => absurd hl (by simp [Array.getD])) ?start
  case hpre => exact pre_of (by kernel_rfl)
  case start =>
    exact ⟨[], s3, s4, s34, s35, s36, s37, _, rfl, fun h => absurd (show false = true from h) Bool.false_ne_true, fun h => absurd (show false = true from h) Bool.false_ne_true, fun h => absurd (show false = true from h) Bool.false_ne_true, fun h => absurd (show false = true from h) Bool.false_ne_true, fun h => absurd (show false = true from h) Bool.false_ne_true, fun h => absurd (show false = true from h) Bool.false_ne_true, rfl, HU0.out.below (Below.refl _ _).drew, (Eff.refl _ _).drew⟩
  case hend =>
    rintro listed ac wq hall ⟨ks, u3, u4, u34, u35, u36, u37, wz, rfl, f0, f1, f2, f3, f5, f6, hw, hU, hE⟩
    rw [hall 4 (show 4 < 7 by decide), if_pos rfl] at hw
    subst hw
    obtain ⟨g1, g2⟩ := f3 (hall 3 (show 3 < 7 by decide))
    obtain rfl := f5 (hall 5 (show 5 < 7 by decide))
    obtain rfl := f6 (hall 6 (show 6 < 7 by decide))
    exact HQ.out ks _ _ _ _ wz g1 g2 hU hE
  case hstep =>
    rintro listed ac wq i o hsz ⟨ks, u3, u4, u34, u35, u36, u37, wz, rfl, f0, f1, f2, f3, f5, f6, hw, hU, hE⟩ ho hall hun hcl
    obtain ⟨b0, b1, b2, b3, b4, b5, b6, rfl⟩ := seven hsz
    have hin : i < 7 := (Array.getElem?_eq_some_iff.1 ho).1
    have k4_3 : b4 = true → b3 = true := fun h => hcl 4 _ rfl h ⟨3, .chain⟩ (by simp) rfl
    have k4_0 : b4 = true → b0 = true := fun h => hcl 4 _ rfl h ⟨0, .data⟩ (by simp) rfl
    have k6_3 : b6 = true → b3 = true := fun h => hcl 6 _ rfl h ⟨3, .data⟩ (by simp) rfl
    clear hcl
    obtain rfl | rfl | rfl | rfl | rfl | rfl | rfl : i = 0 ∨ i = 1 ∨ i = 2 ∨ i = 3 ∨ i = 4 ∨ i = 5 ∨ i = 6 := by omega
    · cases ho
      obtain rfl : b0 = false := hun
      obtain rfl : b4 = false := by cases b4 with
        | false => rfl
        | true => exact absurd (k4_0 rfl) Bool.false_ne_true
      obtain rfl : wq = wz := hw
      have N1 := N.eff hE hn0
      have c0 := N1.cell (i := 0) rfl
      have c1 := N1.cell (i := 1) rfl
      replace f0 := hid f0
      replace f1 := hid f1
      replace f2 := hid f2
      replace f3 := hid f3
      replace f5 := hid f5
      replace f6 := hid f6
      replace hU := hid hU
      replace hE := hid hE
      clear k4_3 k4_0 k6_3
      refine wpOp_step rfl (fun K hK => ?_)
      go_simp
      exact hK _ _ ⟨ks, u3, u4, (.agg #[.slice a S.length c, .slice a' L.length c']), u35, u36, u37, wq, rfl, fun _ => rfl, f1.out, f2.out, f3.out, f5.out, f6.out, rfl, hU.out, hE.out⟩
    · cases ho
      obtain rfl : b1 = false := hun
      have HW := hid hw
      clear hw
      replace f0 := hid f0
      replace f1 := hid f1
      replace f2 := hid f2
      replace f3 := hid f3
      replace f5 := hid f5
      replace f6 := hid f6
      replace hU := hid hU
      replace hE := hid hE
      clear k4_3 k4_0 k6_3
      refine wpOp_step rfl (fun K hK => ?_)
      go_simp
      exact hK _ _ ⟨ks, u3, u4, u34, tv, u36, u37, wz, rfl, f0.out, fun _ => rfl, f2.out, f3.out, f5.out, f6.out, HW.out, hU.out, hE.out⟩
    · cases ho
      obtain rfl : b2 = false := hun
      have HW := hid hw
      clear hw
      replace f0 := hid f0
      replace f1 := hid f1
      replace f2 := hid f2
      replace f3 := hid f3
      replace f5 := hid f5
      replace f6 := hid f6
      replace hU := hid hU
      replace hE := hid hE
      clear k4_3 k4_0 k6_3
      refine wpOp_step rfl (fun K hK => ?_)
      go_simp
      exact hK _ _ ⟨ks, u3, u4, u34, u35, .pointer (some ⟨C, 0, none⟩), u37, wz, rfl, f0.out, f1.out, fun _ => rfl, f3.out, f5.out, f6.out, HW.out, hU.out, hE.out⟩
    · cases ho
      obtain rfl : b3 = false := hun
      obtain rfl : b4 = false := by cases b4 with
        | false => rfl
        | true => exact absurd (k4_3 rfl) Bool.false_ne_true
      obtain rfl : b6 = false := by cases b6 with
        | false => rfl
        | true => exact absurd (k6_3 rfl) Bool.false_ne_true
      obtain rfl : wq = wz := hw
      have hbs := hE.size
      obtain rfl : u36 = .pointer (some ⟨C, 0, none⟩) := f2 (hall ⟨2, .data⟩ (by simp) rfl)
      replace f0 := hid f0
      replace f1 := hid f1
      replace f2 := hid f2
      replace f3 := hid f3
      replace f5 := hid f5
      replace f6 := hid f6
      replace hU := hid hU
      replace hE := hid hE
      clear k4_3 k4_0 k6_3
      refine wpOp_step rfl (fun K hK => ?_)
      go_simp
      refine (draw_keep w0 ao n cap C zs 20 wq (by decide) HCO.out hU.out).mono ?_
      rintro e w3 ⟨v3, rfl, ks3, hk3, ho3, hu3, he3⟩
      exact hK _ _ ⟨ks3, u3, u4, u34, u35, .pointer (some ⟨C, 0, none⟩), v3, w3, rfl, f0.out, f1.out, f2.out, fun _ => ⟨hk3, Own.mono ho3 hbs⟩, f5.out, fun h => absurd (show false = true from h) Bool.false_ne_true, rfl, hu3, hE.out.trans he3⟩
    · cases ho
      obtain rfl : b4 = false := hun
      obtain rfl : wq = wz := hw
      have R1 := R.eff hE hrb
      obtain rfl : u34 = (.agg #[.slice a S.length c, .slice a' L.length c']) := f0 (hall ⟨0, .data⟩ (by simp) rfl)
      have q0 := R1.cell (i := 0) rfl
      have q1 := R1.cell (i := 1) rfl
      have l0 := R1.free 0
      have l1 := R1.free 1
      have X1 := R1.set 0 (.slice a S.length c)
      have q3 := X1.cell (i := 1) rfl
      have l3 := X1.free 1
      clear R1 X1
      replace f0 := hid f0
      replace f1 := hid f1
      replace f2 := hid f2
      replace f3 := hid f3
      replace f5 := hid f5
      replace f6 := hid f6
      replace hU := hid hU
      replace hE := hid hE
      clear k4_3 k4_0 k6_3
      refine wpOp_step rfl (fun K hK => ?_)
      go_simp
      exact hK _ _ ⟨ks, u3, u4, _, u35, u36, u37, wq, rfl, f0.out, f1.out, f2.out, f3.out, f5.out, f6.out, rfl, hU.out, hE.out⟩
    · cases ho
      obtain rfl : b5 = false := hun
      have HW := hid hw
      clear hw
      obtain rfl : u35 = tv := f1 (hall ⟨1, .data⟩ (by simp) rfl)
      replace f0 := hid f0
      replace f1 := hid f1
      replace f2 := hid f2
      replace f3 := hid f3
      replace f5 := hid f5
      replace f6 := hid f6
      replace hU := hid hU
      replace hE := hid hE
      clear k4_3 k4_0 k6_3
      refine wpOp_step rfl (fun K hK => ?_)
      go_simp
      exact hK _ _ ⟨ks, u35, u4, u34, u35, u36, u37, wz, rfl, f0.out, f1.out, f2.out, f3.out, fun _ => rfl, f6.out, HW.out, hU.out, hE.out⟩
    · cases ho
      obtain rfl : b6 = false := hun
      have HW := hid hw
      clear hw
      replace f0 := hid f0
      replace f1 := hid f1
      replace f2 := hid f2
      replace f3 := hid f3
      replace f5 := hid f5
      replace f6 := hid f6
      replace hU := hid hU
      replace hE := hid hE
      clear k4_3 k4_0 k6_3
      refine wpOp_step rfl (fun K hK => ?_)
      go_simp
      exact hK _ _ ⟨ks, u3, u37, u34, u35, u36, u37, wz, rfl, f0.out, f1.out, f2.out, f3.out, f5.out, fun _ => rfl, HW.out, hU.out, hE.out⟩

set_option maxRecDepth 100000 in
set_option maxHeartbeats 3200000 in
theorem draw_story (ao : Option Addr) (n cap : Nat) (zs : List Int) (w : World) (hcode : Code w ao n zs) :
    Calls Try.prog 10 #[.slice ao n cap] w fun e w' => ∃ v tv kv, e = .returned (.tuple #[v, tv, kv]) ∧ ∃ (T : List ByteArray) (ks : List Int), 1 ≤ T.length ∧ T.length ≤ 6 ∧ (∀ j, j < T.length → (sAt T j).size ≤ 240) ∧ ks.length ≤ 100 ∧
      DO w' w.heap.size v (List.replicate 30 ByteArray.empty) [] ∧ OwG w' w.heap.size 9 1 tv T.length (encS T) ∧ Own w' w.heap.size 3 .i64 kv ks ∧ Below w.heap.size w w' := by
  have hb0 := (Below.refl w.heap.size w).alloc (Nat.le_refl _) (.cells #[.slice none 0 0, .slice none 0 0] 27)
  have HB := hid hb0
  have HC := hid (show Code (w.alloc (.cells #[.slice none 0 0, .slice none 0 0] 27)) ao n zs from ⟨hcode.1, hcode.2.1.below (Nat.le_refl _) hb0, hcode.2.2⟩)
  have O := hid (Blk.new w [.slice none 0 0, .slice none 0 0] 27)
  have hsz : (w.alloc (.cells #[.slice none 0 0, .slice none 0 0] 27)).heap.size = w.heap.size + 1 := by simp
  clear hcode hb0
  go_enter Try.func10, Try.ntmps10
  go_wp2_with fail
  generalize w.alloc (.cells #[.slice none 0 0, .slice none 0 0] 27) = wa at *
  refine (new_any ao n cap zs wa HC.out).mono ?_
  rintro e w1 ⟨C, rfl, hc1, hb1⟩
  have HC1 := hid hc1
  have hCw := hc1.1
  have hC1 := hc1.lt
  replace hsz : w.heap.size < wa.heap.size := by omega
  have hO1 := hid (O.out.below hb1 O.out.lt)
  have HB1 := hid (HB.out.trans (hb1.mono (by omega)))
  clear hc1 hb1
  go_wp2_with fail
  refine (spec_start 30 w1).mono ?_
  rintro e w2 ⟨v, rfl, ⟨va, vb, rfl, o1, o2⟩, hb2⟩
  rw [stR_yes (by decide) (by decide)] at o1
  generalize (stR 30).2 = bb
  change OwG w2 w1.heap.size 9 1 va (List.replicate 30 ByteArray.empty).length (encS (List.replicate 30 ByteArray.empty)) at o1
  generalize hS0 : List.replicate 30 ByteArray.empty = S0 at *
  obtain ⟨xa, xc, rfl, _, _⟩ := o1.shape
  obtain ⟨ya, yc, rfl, _, _⟩ := o2.shape
  have hw12 := hb2.size
  have ba := (Below.refl w2.heap.size w2).alloc (Nat.le_refl _) (.cells #[.slice xa S0.length xc, .slice ya (0 : Nat) yc] 27)
  have N := hid (Blk.new w2 [.slice xa S0.length xc, .slice ya (0 : Nat) yc] 27)
  have hbx := hb2.trans (ba.mono hw12)
  replace hO1 := hid (hO1.out.below hbx hO1.out.lt)
  replace HC1 := hid (HC1.out.below hbx)
  have hCb := hC1
  replace HB1 := hid (HB1.out.trans (hbx.mono (by omega)))
  have G1 := hid (o1.below ba)
  have G2 := hid (o2.below ba)
  have hsa : (w2.alloc (.cells #[.slice xa S0.length xc, .slice ya (0 : Nat) yc] 27)).heap.size = w2.heap.size + 1 := by simp
  clear o1 o2 hb2 ba hbx
  go_wp2_with fail
  generalize w2.alloc (.cells #[.slice xa S0.length xc, .slice ya (0 : Nat) yc] 27) = w3 at *
  generalize hn0 : w2.heap.size = n0 at *
  clear hn0
  have hn3 : n0 < w3.heap.size := by omega
  have HSA := hid hsa
  clear hsa
  have hC3 := HC1.out.lt
  have hb4 := (Below.refl w3.heap.size w3).alloc (Nat.le_refl _) (.cells #[] 9)
  have E0 := hid (OwG.empty w3 w3.heap.size 9 1 (Nat.le_refl _))
  replace HC1 := hid (HC1.out.below hb4)
  have HE := hid ((Eff.refl C w3).ofBelow hb4)
  clear hb4
  refine (below_any wa ao n cap C zs _ _ HC.out HC1.out).mono ?_
  generalize w3.alloc (.cells #[] 9) = w4 at *
  rintro e w5 ⟨y, rfl, hy, hc5, he5⟩
  obtain ⟨m, rfl⟩ : ∃ m : Nat, y = m := ⟨y.toNat, by omega⟩
  have hm : m ≤ 5 := by omega
  replace HC1 := hid hc5
  replace E0 := hid (E0.out.eff he5 hC3)
  replace HE := hid (HE.out.trans he5)
  have hwr : IntKind.i64.wrap (1 + (m : Int)) = 1 + (m : Int) := by rw [IntKind.wrap_i64]; omega
  clear hc5 he5 hy
  go_wp2_with fail
  clear hwr
  obtain ⟨mm, hmm⟩ : ∃ mm : Nat, mm = m + 1 := ⟨_, rfl⟩
  rw [show (1 : Int) + (m : Int) = (mm : Int) by omega]
  have hm6 : 1 ≤ mm ∧ mm ≤ 6 := by omega
  clear hmm
  go_loopw [8, 10] (fun q i wr => ∃ (k : Nat) (T : List ByteArray), k ≤ mm ∧ i = .int .i64 k ∧ Hid (T.length = k ∧ ∀ j, j < T.length → (sAt T j).size ≤ 240) ∧ Hid (OwG wr w3.heap.size 9 1 q T.length (encS T)) ∧ Hid (Cur wa ao n cap C wr) ∧ Hid (Eff C w3 wr)) (fun _ i _ => mm - (intOf i).toNat)
  case atStart => exact ⟨0, [], by omega, rfl, ⟨rfl, fun j hj => by simp at hj⟩, by have := E0.out; rw [HSA.out] at this ⊢; exact this, HC1.out, HE.out⟩
  case round =>
    obtain ⟨k, T, hk, rfl, hT, hown, hc, he⟩ := hrel
    clear E0 HC1 HE
    obtain ⟨qa, qc, rfl, _, _⟩ := hown.out.shape
    by_cases hlt : k < mm
    · have hlt' : (k : Int) < (mm : Int) := by omega
      have hCr := hc.out.lt
      have hb6 := (Below.refl wr.heap.size wr).alloc (Nat.le_refl _) (.cells #[.int .i64 0, .int .i64 5, .int .i64 116, .int .i64 117, .int .i64 240] 3)
      have bg := Blk.new wr [.int .i64 0, .int .i64 5, .int .i64 116, .int .i64 117, .int .i64 240] 3
      have HPK := hid (pick_any wa ao n cap C zs wr.heap.size 5 5 [0, 5, 116, 117, 240] _ HC.out (hc.out.below hb6) (by decide) rfl (by decide) hCr (fun j hj => by
        match j, hj with
        | 0, _ => exact bg.cell rfl
        | 1, _ => exact bg.cell rfl
        | 2, _ => exact bg.cell rfl
        | 3, _ => exact bg.cell rfl
        | 4, _ => exact bg.cell rfl))
      have H6 := hid (hown.out.below hb6)
      have E6 := hid (he.out.ofBelow (hb6.mono he.out.size))
      clear bg hb6
      go_wp2_with fail
      refine HPK.out.mono ?_
      clear HPK
      generalize wr.alloc _ = w6 at *
      rintro e w7 ⟨j, hj, rfl, hc7, he7⟩
      have hmj := pick_mem ([0, 5, 116, 117, 240] : List Int) (fun x => 0 ≤ x ∧ x ≤ 240) (by decide) j hj
      generalize List.getD ([0, 5, 116, 117, 240] : List Int) j 0 = Y at *
      obtain ⟨mj, rfl⟩ : ∃ mj : Nat, Y = mj := ⟨Y.toNat, by omega⟩
      replace H6 := hid (H6.out.eff he7 hC3)
      replace E6 := hid (E6.out.trans he7)
      have C7 := hid hc7
      clear hc7 he7
      go_wp2_with fail
      refine (any_any wa ao n cap C zs mj w7 (by omega) HC.out C7.out).mono ?_
      rintro e w8 ⟨s, rfl, hs, hc8, he8⟩
      replace H6 := hid (H6.out.eff he8 hC3)
      replace E6 := hid (E6.out.trans he8)
      replace C7 := hid hc8
      have HS := hid (show s.size ≤ 240 by omega)
      clear hc8 he8 hs hmj
      have hl4 : T.length < 1000000000 := by have := hT.out.1; omega
      have hone : ∀ u ∈ [Value.string s], u.oneCell' = true := fun u hu => by simp at hu; subst hu; rfl
      go_wp2_with (at_builtin; refine wpList_pushG w8 w8.heap.size rfl rfl _ _ 24 rfl w3.heap.size 9 (.string ByteArray.empty) 1 16 Try.underlying24 Try.info9 rfl (by decide) (.slice qa T.length qc) T.length (encS T) rfl H6.out [.string s] rfl hone rfl hl4 (by decide) ?_)
      intro v9 w9 ho9 hb9 _ _
      obtain ⟨va9, vc9, rfl, _, _⟩ := ho9.shape
      have H9 := hid (ho9.cast2 (n' := (T ++ [s]).length) (by simp) (show encS T ++ [.string s] = encS (T ++ [s]) by rw [encS_app]; rfl))
      have C9 := hid (C7.out.belowB hC3 hb9)
      have E9 := hid (E6.out.ofBelow hb9)
      clear ho9 hb9 H6 C7 E6 hc he hown
      go_wp2_with fail
      go_roundw
      case rel =>
        refine ⟨k + 1, T ++ [s], by omega, by go_num, ⟨?_, ?_⟩, ?_, C9.out, E9.out⟩
        · rw [List.length_append, hT.out.1]; rfl
        · intro j hj
          by_cases h : j < T.length
          · have e : sAt (T ++ [s]) j = sAt T j := by simp [sAt, List.getD, List.getElem?_append_left h]
            rw [e]
            exact hT.out.2 j h
          · have hjT : j = T.length := by rw [List.length_append] at hj; simp at hj; omega
            subst hjT
            have e : sAt (T ++ [s]) T.length = s := by simp [sAt, List.getD]
            rw [e]
            exact HS.out
        · have := H9.out
          rw [List.length_append] at this ⊢
          exact this
      case measure => simp [intOf]; omega
    · obtain rfl : k = mm := by omega
      have hCn : n0 ≠ C := by omega
      have hCw2 : w.heap.size ≠ C := by omega
      have N9 := N.out.eff he.out hCn
      have R9 := hO1.out.eff he.out hCw2
      have n0' := N9.cell (i := 0) rfl
      have n1' := N9.cell (i := 1) rfl
      have HN := hid N9
      have HR := hid R9
      clear N9 R9
      go_wp2_with fail
      refine story_region _ wa ao n cap C n0 w.heap.size zs (.slice qa T.length qc) _ _ _ _ _ _ _ _ _ _ _ _ _ _ _ _ _ _ _ _ _ _ _ _ _ _ _ _ _ _ _ _ _ _ xa xc ya yc S0 [] _ wr HC.out hc.out hCn hCw2 HN.out HR.out ?_
      intro ks u34 u35 u36 u37 wz hks hku hcz hez
      have hE3 := he.out.trans hez
      have R9 := hO1.out.eff hE3 hCw2
      have hlow : ∀ i, (⟨w.heap.size, i, none⟩ : Addr).block < w1.heap.size := fun i => by show w.heap.size < w1.heap.size; omega
      have F := (R9.set 0 (.slice xa S0.length xc)).set 1 (.slice ya (0 : Nat) yc)
      have y0 := F.cell (i := 0) rfl
      have y1 := F.cell (i := 1) rfl
      have hw3 : w1.heap.size ≤ w3.heap.size := by omega
      have hw3r := he.out.size
      have J1 := ((((G1.out.eff hE3 hCb).setCell_below (a := ⟨w.heap.size, 0, none⟩) (hlow 0) (.slice xa S0.length xc)).setCell_below (a := ⟨w.heap.size, 1, none⟩) (hlow 1) (.slice ya (0 : Nat) yc))).mono (show w.heap.size ≤ w1.heap.size by omega)
      have J2 := ((((G2.out.eff hE3 hCb).setCell_below (a := ⟨w.heap.size, 0, none⟩) (hlow 0) (.slice xa S0.length xc)).setCell_below (a := ⟨w.heap.size, 1, none⟩) (hlow 1) (.slice ya (0 : Nat) yc))).mono (show w.heap.size ≤ w1.heap.size by omega)
      have J3 := ((((hown.out.eff hez (by omega)).setCell_below (a := ⟨w.heap.size, 0, none⟩) (by show w.heap.size < w3.heap.size; omega) (.slice xa S0.length xc)).setCell_below (a := ⟨w.heap.size, 1, none⟩) (by show w.heap.size < w3.heap.size; omega) (.slice ya (0 : Nat) yc))).mono (show w.heap.size ≤ w3.heap.size by omega)
      have HBW : Below w.heap.size w wz := HB1.out.trans ((hE3.below (by omega)).mono (by omega))
      have HBX := (HBW.setCell (p := ⟨w.heap.size, 0, none⟩) (Nat.le_refl _) (.slice xa S0.length xc)).setCell (p := ⟨w.heap.size, 1, none⟩) (Nat.le_refl _) (.slice ya (0 : Nat) yc)
      have J4 : Own ((wz.setCell ⟨w.heap.size, 0, none⟩ (.slice xa S0.length xc)).setCell ⟨w.heap.size, 1, none⟩ (.slice ya (0 : Nat) yc)) w.heap.size 3 .i64 u37 ks := by
        have := hku
        refine ⟨HBX.size, this.2.1, ?_⟩
        rcases this.2.2 with h0 | ⟨g, cap2, cur2, hv, hg, hh, r⟩
        · exact .inl h0
        · have hne : g ≠ w.heap.size := by omega
          exact .inr ⟨g, cap2, cur2, hv, by omega, (heap_setCell_other _ ⟨w.heap.size, 1, none⟩ g _ hne).trans ((heap_setCell_other _ ⟨w.heap.size, 0, none⟩ g _ hne).trans hh), r⟩
      have HJ := hid (show _ ∧ _ ∧ _ ∧ _ ∧ _ from ⟨J1, J2, J3, J4, HBX⟩)
      clear J1 J2 J3 J4 HBX HBW F R9 hE3 hku hcz hez
      go_wp2_with fail
      refine bodyPost_ret (v := .tuple #[.agg #[.slice xa S0.length xc, .slice ya (0 : Nat) yc], .slice qa T.length qc, u37]) (by simp [results, Try.results10, go_sem, y0, y1]) rfl ?_
      obtain ⟨J1, J2, J3, J4, HBX⟩ := HJ.out
      exact ⟨_, _, _, rfl, T, by have := hT.out.1; omega, by have := hT.out.1; omega, hT.out.2, ks, hks, ⟨_, _, rfl, J1, J2⟩, J3, J4, HBX⟩

/- The byte of a text that a law asks for. -/
set_option maxRecDepth 100000 in
set_option maxHeartbeats 1600000 in
theorem at_any (ao : Option Addr) (n cap i : Nat) (zs : List Int) (w : World) (hn : n ≤ 1048576) (hi : i ≤ 1000) (hv : View .u8 w ao n zs) :
    Calls Try.prog 12 #[.slice ao n cap, .int .i64 (i : Int)] w fun e w' => ∃ x : Int, e = .returned (.int .i64 x) ∧ w = w' := by
  by_cases hlt : i < n
  · obtain ⟨b, off, rfl, hcell⟩ := hv.2 i hlt
    have hlt' : (i : Int) < (n : Int) := by omega
    clear hv
    go_enter Try.func12, Try.ntmps12
    go_wp2_with fail
    go_ret
    exact ⟨_, rfl, rfl⟩
  · have hlt' : ¬ (i : Int) < (n : Int) := by omega
    clear hv
    go_enter Try.func12, Try.ntmps12
    go_wp2_with fail
    go_ret

    exact ⟨⟨_, rfl⟩, rfl⟩
end Go.Proofs.Ytphhgfgmlfdkiaa
