/- LogOpen of the program: the statement whose order is open. -/
import Derived.Test.YtphhgfgmlfdkiaaEm
import Derived.Test.YtphhgfgmlfdkiaaWl
import Derived.Test.YtphhgfgmlfdkiaaRi
import Derived.Test.YtphhgfgmlfdkiaaFr
namespace Go.Proofs.Ytphhgfgmlfdkiaa
open Go.RowKit
set_option linter.unusedVariables false

theorem eleven {A : Array Bool} (h : A.size = 11) : ∃ b0 b1 b2 b3 b4 b5 b6 b7 b8 b9 b10, A = #[b0, b1, b2, b3, b4, b5, b6, b7, b8, b9, b10] := by
  obtain ⟨l⟩ := A
  match l, h with
  | [b0, b1, b2, b3, b4, b5, b6, b7, b8, b9, b10], _ => exact ⟨b0, b1, b2, b3, b4, b5, b6, b7, b8, b9, b10, rfl⟩

/-- What stands in memory while the statement is done. -/
def Xo (m0 : Nat) (S : List ByteArray) (M LL : List (Int × ByteArray)) (R : Bool) (b3 b4 b8 b9 : Bool) (u7 u24 u25 va vb : Value) (wq : World) : Prop :=
  (b3 = true → ∃ mo mc, u24 = .slice mo M.length mc ∧ OwG wq m0 69 2 u24 M.length (encW M)) ∧ (b4 = true → u25 = .tuple #[.agg #[va, vb], .bool R] ∧ OwG wq m0 9 1 va S.length (encS S) ∧ OwG wq m0 69 2 vb LL.length (encW LL)) ∧ (b8 = true → ∃ Bx, u7 = .pointer (some ⟨Bx, 0, none⟩) ∧ m0 ≤ Bx ∧ Blk wq Bx (if b9 = true then [va, vb] else [.slice none 0 0, .slice none 0 0]) 27)
theorem Xo.below {m0 : Nat} {S : List ByteArray} {M LL : List (Int × ByteArray)} {R b3 b4 b8 b9 : Bool} {u7 u24 u25 va vb : Value} {w w' : World} (h : Xo m0 S M LL R b3 b4 b8 b9 u7 u24 u25 va vb w) (hb : Below w.heap.size w w') : Xo m0 S M LL R b3 b4 b8 b9 u7 u24 u25 va vb w' := by
  obtain ⟨h1, h2, h3⟩ := h
  refine ⟨fun e => ?_, fun e => ?_, fun e => ?_⟩
  · obtain ⟨mo, mc, e1, e2⟩ := h1 e
    exact ⟨mo, mc, e1, e2.below hb⟩
  · obtain ⟨e1, e2, e3⟩ := h2 e
    exact ⟨e1, e2.below hb, e3.below hb⟩
  · obtain ⟨Bx, e1, e2, e3⟩ := h3 e
    exact ⟨Bx, e1, e2, e3.below hb e3.lt⟩

set_option maxRecDepth 100000 in
set_option maxHeartbeats 3200000 in
theorem open_region (zp : String) (n0 : Nat) (p : Nat) (t0 t2 t3 t4 t5 t9 t10 t11 t12 t13 t14 t15 t16 t17 t18 t19 t28 t29 t30 t31 t32 t33 t34 t35 : Value) (a : Option Addr) (c : Nat) (a' : Option Addr) (c' : Nat) (S : List ByteArray) (L : List (Int × ByteArray)) (Q : Exit → Act → World → Prop) (w2 : World) (h1 : S.length ≤ 1048576) (h2 : L.length ≤ 1048576) (hok : DOk S L)
    (N : Blk w2 n0 [.slice a S.length c, .slice a' L.length c'] 27) (V : DP w2 (.agg #[.slice a S.length c, .slice a' L.length c']) S L)
    (hQ : ∀ u20 u21 u22 u23 u24 u25 u26 u27 Bx xa xc ya yc wq, w2.heap.size ≤ Bx → Blk wq Bx [.slice xa S.length xc, .slice ya (wlL L (emTo (eff S L) p S.length)).length yc] 27 → OwG wq w2.heap.size 9 1 (.slice xa S.length xc) S.length (encS S) → OwG wq w2.heap.size 69 2 (.slice ya (wlL L (emTo (eff S L) p S.length)).length yc) (wlL L (emTo (eff S L) p S.length)).length (encW (wlL L (emTo (eff S L) p S.length))) → Below w2.heap.size w2 wq → Q .normal { tmps := #[t0, .pointer (some ⟨n0, 0, none⟩), t2, t3, t4, t5, .int .i64 (p : Int), .pointer (some ⟨Bx, 0, none⟩), .bool (decide ((emTo (eff S L) p S.length).length + L.length ≤ 3000)), t9, t10, t11, t12, t13, t14, t15, t16, t17, t18, t19, u20, u21, u22, u23, u24, u25, u26, u27, t28, t29, t30, t31, t32, t33, t34, t35], defers := [] } wq) :
    (Code.region 4 #[{ dst := some 21, op := Op.load 27 (Operand.tmp 1), type := 27, pos := zp, after := #[], guard := none }, { dst := some 22, op := Op.load 27 (Operand.tmp 1), type := 27, pos := zp, after := #[], guard := none }, { dst := some 23, op := Op.move (Operand.tmp 6), type := 3, pos := zp, after := #[], guard := none }, { dst := some 24, op := Op.call { callee := Callee.value (Operand.func 51), args := #[Operand.tmp 22, Operand.tmp 23], argTypes := #[27, 3] }, type := 25, pos := zp, after := #[{ on := 1, ground := Ground.data }, { on := 2, ground := Ground.data }], guard := none }, { dst := some 25, op := Op.call { callee := Callee.value (Operand.func 44), args := #[Operand.tmp 21, Operand.tmp 24], argTypes := #[27, 25] }, type := 62, pos := zp, after := #[{ on := 0, ground := Ground.data }, { on := 3, ground := Ground.data }, { on := 3, ground := Ground.chain }], guard := none }, { dst := some 20, op := Op.move (Operand.tmp 25), type := 62, pos := zp, after := #[{ on := 4, ground := Ground.data }], guard := none }, { dst := some 26, op := Op.extract (Operand.tmp 20) 0, type := 27, pos := zp, after := #[{ on := 5, ground := Ground.data }], guard := none }, { dst := some 27, op := Op.extract (Operand.tmp 20) 1, type := 4, pos := zp, after := #[{ on := 5, ground := Ground.data }, { on := 9, ground := Ground.gcOnly Departure.lateStores }], guard := none }, { dst := some 7, op := Op.alloc 27, type := 0, pos := zp, after := #[], guard := none }, { dst := none, op := Op.store 27 (Operand.tmp 7) (Operand.tmp 26), type := 0, pos := zp, after := #[{ on := 8, ground := Ground.data }, { on := 6, ground := Ground.data }, { on := 4, ground := Ground.chain }, { on := 0, ground := Ground.phase }, { on := 1, ground := Ground.phase }, { on := 2, ground := Ground.phase }, { on := 3, ground := Ground.phase }, { on := 4, ground := Ground.phase }, { on := 5, ground := Ground.phase }, { on := 6, ground := Ground.phase }, { on := 7, ground := Ground.textOnly Departure.lateStores }, { on := 8, ground := Ground.phase }], guard := none }, { dst := some 8, op := Op.assign (Operand.tmp 27), type := 4, pos := zp, after := #[{ on := 7, ground := Ground.data }, { on := 9, ground := Ground.chain }, { on := 0, ground := Ground.phase }, { on := 1, ground := Ground.phase }, { on := 2, ground := Ground.phase }, { on := 3, ground := Ground.phase }, { on := 4, ground := Ground.phase }, { on := 5, ground := Ground.phase }, { on := 6, ground := Ground.phase }, { on := 7, ground := Ground.phase }, { on := 8, ground := Ground.phase }, { on := 9, ground := Ground.phase }], guard := none }] true).wp Try.prog Q { tmps := #[t0, .pointer (some ⟨n0, 0, none⟩), t2, t3, t4, t5, .int .i64 (p : Int), undef, undef, t9, t10, t11, t12, t13, t14, t15, t16, t17, t18, t19, undef, undef, undef, undef, undef, undef, undef, undef, t28, t29, t30, t31, t32, t33, t34, t35], defers := [] } w2 := by
  have HQ := hid hQ
  clear hQ
  have HEM := hid (fun wz hz => emptied_any (.agg #[.slice a S.length c, .slice a' L.length c']) S L p wz hok hz)
  have HML := hid (show (emTo (eff S L) p S.length).length ≤ 1048576 from Nat.le_trans (emTo_len (eff S L) p S.length) h1)
  generalize emTo (eff S L) p S.length = M at *
  have HWL := hid (fun mo mc wz hz hm hp => write_late (.agg #[.slice a S.length c, .slice a' L.length c']) S L M mo mc wz h1 h2 HML.out hz hm hp)
  generalize decide (M.length + L.length ≤ 3000) = R at *
  generalize wlL L M = LL at *
  refine wp_region_any (by kernel_rfl) ?_
  refine wpAny_inv (fun listed ac wq => ∃ u7 u8 u20 u21 u22 u23 u24 u25 u26 u27 va vb, ac = { tmps := #[t0, .pointer (some ⟨n0, 0, none⟩), t2, t3, t4, t5, .int .i64 (p : Int), u7, u8, t9, t10, t11, t12, t13, t14, t15, t16, t17, t18, t19, u20, u21, u22, u23, u24, u25, u26, u27, t28, t29, t30, t31, t32, t33, t34, t35], defers := [] } ∧ (listed.getD 0 false = true → u21 = .agg #[.slice a S.length c, .slice a' L.length c']) ∧ (listed.getD 1 false = true → u22 = .agg #[.slice a S.length c, .slice a' L.length c']) ∧ (listed.getD 2 false = true → u23 = .int .i64 (p : Int)) ∧ (listed.getD 5 false = true → u20 = .tuple #[.agg #[va, vb], .bool R]) ∧ (listed.getD 6 false = true → u26 = .agg #[va, vb]) ∧ (listed.getD 7 false = true → u27 = .bool R) ∧ (listed.getD 10 false = true → u8 = .bool R) ∧ Xo w2.heap.size S M LL R (listed.getD 3 false) (listed.getD 4 false) (listed.getD 8 false) (listed.getD 9 false) u7 u24 u25 va vb wq ∧ Below w2.heap.size w2 wq) ?hpre ?hstep ?hend _ _ _ _ rfl (Nat.le_refl 11) (fun j oj _ hl => absurd hl (by simp [Array.getD])) ?start
  case hpre => exact pre_of (by kernel_rfl)
  case start =>
    exact ⟨undef, undef, undef, undef, undef, undef, undef, undef, undef, undef, undef, undef, rfl, fun h => absurd (show false = true from h) Bool.false_ne_true, fun h => absurd (show false = true from h) Bool.false_ne_true, fun h => absurd (show false = true from h) Bool.false_ne_true, fun h => absurd (show false = true from h) Bool.false_ne_true, fun h => absurd (show false = true from h) Bool.false_ne_true, fun h => absurd (show false = true from h) Bool.false_ne_true, fun h => absurd (show false = true from h) Bool.false_ne_true, ⟨fun h => absurd (show false = true from h) Bool.false_ne_true, fun h => absurd (show false = true from h) Bool.false_ne_true, fun h => absurd (show false = true from h) Bool.false_ne_true⟩, (Below.refl _ _).drew⟩
  case hend =>
    rintro listed ac wq hall ⟨u7, u8, u20, u21, u22, u23, u24, u25, u26, u27, va, vb, rfl, f0, f1, f2, f5, f6, f7, f10, hX, hB⟩
    rw [hall 3 (show 3 < 11 by decide)] at hX
    rw [hall 4 (show 4 < 11 by decide)] at hX
    rw [hall 8 (show 8 < 11 by decide)] at hX
    rw [hall 9 (show 9 < 11 by decide)] at hX
    obtain ⟨x3, x4, x8⟩ := hX
    obtain ⟨e1, e2, e3⟩ := x4 rfl
    obtain ⟨Bx, rfl, e4, e5⟩ := x8 rfl
    obtain ⟨xa, xc, rfl, _, _⟩ := e2.shape
    obtain ⟨ya, yc, rfl, _, _⟩ := e3.shape
    obtain rfl := f10 (hall 10 (show 10 < 11 by decide))
    exact HQ.out _ _ _ _ _ _ _ _ Bx xa xc ya yc wq e4 e5 e2 e3 hB
  case hstep =>
    rintro listed ac wq i o hsz ⟨u7, u8, u20, u21, u22, u23, u24, u25, u26, u27, va, vb, rfl, f0, f1, f2, f5, f6, f7, f10, hX, hB⟩ ho hall hun hcl
    obtain ⟨b0, b1, b2, b3, b4, b5, b6, b7, b8, b9, b10, rfl⟩ := eleven hsz
    have hin : i < 11 := (Array.getElem?_eq_some_iff.1 ho).1
    have N1 := N.below hB N.lt
    have c0 := N1.cell (i := 0) rfl
    have c1 := N1.cell (i := 1) rfl
    have V1 := V.below (Nat.le_refl _) hB
    have hbs := hB.size
    have k9 : b9 = true → b3 = true ∧ b4 = true ∧ b8 = true := fun h => ⟨hcl 9 _ rfl h ⟨3, .phase⟩ (by simp) rfl, hcl 9 _ rfl h ⟨4, .phase⟩ (by simp) rfl, hcl 9 _ rfl h ⟨8, .phase⟩ (by simp) rfl⟩
    have k4 : b4 = true → b3 = true := fun h => hcl 4 _ rfl h ⟨3, .data⟩ (by simp) rfl
    have k5 : b5 = true → b4 = true := fun h => hcl 5 _ rfl h ⟨4, .data⟩ (by simp) rfl
    have k6 : b6 = true → b5 = true := fun h => hcl 6 _ rfl h ⟨5, .data⟩ (by simp) rfl
    clear hcl
    obtain rfl | rfl | rfl | rfl | rfl | rfl | rfl | rfl | rfl | rfl | rfl : i = 0 ∨ i = 1 ∨ i = 2 ∨ i = 3 ∨ i = 4 ∨ i = 5 ∨ i = 6 ∨ i = 7 ∨ i = 8 ∨ i = 9 ∨ i = 10 := by omega
    · cases ho
      obtain rfl : b0 = false := hun
      replace f0 := hid f0
      replace f1 := hid f1
      replace f2 := hid f2
      replace f5 := hid f5
      replace f6 := hid f6
      replace f7 := hid f7
      replace f10 := hid f10
      replace hX := hid hX
      clear k9 k4 k5 k6
      refine wpOp_step rfl (fun K hK => ?_)
      go_simp
      exact hK _ _ ⟨u7, u8, u20, .agg #[.slice a S.length c, .slice a' L.length c'], u22, u23, u24, u25, u26, u27, va, vb, rfl, fun _ => rfl, f1.out, f2.out, f5.out, f6.out, f7.out, f10.out, hX.out, hB⟩
    · cases ho
      obtain rfl : b1 = false := hun
      replace f0 := hid f0
      replace f1 := hid f1
      replace f2 := hid f2
      replace f5 := hid f5
      replace f6 := hid f6
      replace f7 := hid f7
      replace f10 := hid f10
      replace hX := hid hX
      clear k9 k4 k5 k6
      refine wpOp_step rfl (fun K hK => ?_)
      go_simp
      exact hK _ _ ⟨u7, u8, u20, u21, .agg #[.slice a S.length c, .slice a' L.length c'], u23, u24, u25, u26, u27, va, vb, rfl, f0.out, fun _ => rfl, f2.out, f5.out, f6.out, f7.out, f10.out, hX.out, hB⟩
    · cases ho
      obtain rfl : b2 = false := hun
      replace f0 := hid f0
      replace f1 := hid f1
      replace f2 := hid f2
      replace f5 := hid f5
      replace f6 := hid f6
      replace f7 := hid f7
      replace f10 := hid f10
      replace hX := hid hX
      clear k9 k4 k5 k6
      refine wpOp_step rfl (fun K hK => ?_)
      go_simp
      exact hK _ _ ⟨u7, u8, u20, u21, u22, .int .i64 (p : Int), u24, u25, u26, u27, va, vb, rfl, f0.out, f1.out, fun _ => rfl, f5.out, f6.out, f7.out, f10.out, hX.out, hB⟩
    · cases ho
      obtain rfl : b3 = false := hun
      obtain rfl : b9 = false := by cases b9 with
        | false => rfl
        | true => exact absurd (k9 rfl).1 Bool.false_ne_true
      obtain rfl : b4 = false := by cases b4 with
        | false => rfl
        | true => exact absurd (k4 rfl) Bool.false_ne_true
      obtain rfl : u22 = .agg #[.slice a S.length c, .slice a' L.length c'] := f1 (hall ⟨1, .data⟩ (by simp) rfl)
      obtain rfl : u23 = .int .i64 (p : Int) := f2 (hall ⟨2, .data⟩ (by simp) rfl)
      replace f0 := hid f0
      replace f1 := hid f1
      replace f2 := hid f2
      replace f5 := hid f5
      replace f6 := hid f6
      replace f7 := hid f7
      replace f10 := hid f10
      replace hX := hid hX
      clear k9 k4 k5 k6
      refine wpOp_step rfl (fun K hK => ?_)
      go_simp
      refine (HEM.out _ V1).mono ?_
      rintro e w3 ⟨v3, rfl, ho3, hb3⟩
      obtain ⟨mo, mc, rfl, _, _⟩ := ho3.shape
      obtain ⟨_, _, x8⟩ := hX.out.below hb3
      exact hK _ _ ⟨u7, u8, u20, u21, .agg #[.slice a S.length c, .slice a' L.length c'], .int .i64 (p : Int), .slice mo M.length mc, u25, u26, u27, va, vb, rfl, f0.out, f1.out, f2.out, f5.out, f6.out, f7.out, f10.out, ⟨fun _ => ⟨mo, mc, rfl, ho3.mono hbs⟩, fun h => absurd (show false = true from h) Bool.false_ne_true, x8⟩, hB.trans (hb3.mono hbs)⟩
    · cases ho
      obtain rfl : b4 = false := hun
      obtain rfl : b9 = false := by cases b9 with
        | false => rfl
        | true => exact absurd (k9 rfl).2.1 Bool.false_ne_true
      obtain rfl : b5 = false := by cases b5 with
        | false => rfl
        | true => exact absurd (k5 rfl) Bool.false_ne_true
      obtain rfl : b6 = false := by cases b6 with
        | false => rfl
        | true => exact absurd (k6 rfl) Bool.false_ne_true
      obtain rfl : u21 = .agg #[.slice a S.length c, .slice a' L.length c'] := f0 (hall ⟨0, .data⟩ (by simp) rfl)
      obtain rfl : b3 = true := (hall ⟨3, .data⟩ (by simp) rfl)
      obtain ⟨mo, mc, rfl, hm⟩ := hX.1 rfl
      obtain ⟨mo2, mc2, e2, hp, _⟩ := hm.shape
      cases e2
      replace f0 := hid f0
      replace f1 := hid f1
      replace f2 := hid f2
      replace f5 := hid f5
      replace f6 := hid f6
      replace f7 := hid f7
      replace f10 := hid f10
      replace hX := hid hX
      clear k9 k4 k5 k6
      refine wpOp_step rfl (fun K hK => ?_)
      go_simp
      refine (HWL.out _ _ _ V1 hm.rw hp).mono ?_
      rintro e w3 ⟨v3, rfl, ⟨va3, vb3, rfl, ho1, ho2⟩, hb3⟩
      obtain ⟨x3, _, x8⟩ := hX.out.below hb3
      refine hK _ _ ⟨u7, u8, u20, .agg #[.slice a S.length c, .slice a' L.length c'], u22, u23, .slice mo M.length mc, .tuple #[.agg #[va3, vb3], .bool R], u26, u27, va3, vb3, rfl, f0.out, f1.out, f2.out, fun h => absurd (show false = true from h) Bool.false_ne_true, fun h => absurd (show false = true from h) Bool.false_ne_true, f7.out, f10.out, ⟨x3, fun _ => ⟨rfl, ho1.mono hbs, ho2.mono hbs⟩, fun e => ?_⟩, hB.trans (hb3.mono hbs)⟩
      exact x8 e
    · cases ho
      obtain rfl : b5 = false := hun
      obtain rfl : b4 = true := (hall ⟨4, .data⟩ (by simp) rfl)
      obtain rfl : u25 = .tuple #[.agg #[va, vb], .bool R] := (hX.2.1 rfl).1
      replace f0 := hid f0
      replace f1 := hid f1
      replace f2 := hid f2
      replace f5 := hid f5
      replace f6 := hid f6
      replace f7 := hid f7
      replace f10 := hid f10
      replace hX := hid hX
      clear k9 k4 k5 k6
      refine wpOp_step rfl (fun K hK => ?_)
      go_simp
      exact hK _ _ ⟨u7, u8, .tuple #[.agg #[va, vb], .bool R], u21, u22, u23, u24, .tuple #[.agg #[va, vb], .bool R], u26, u27, va, vb, rfl, f0.out, f1.out, f2.out, fun _ => rfl, f6.out, f7.out, f10.out, hX.out, hB⟩
    · cases ho
      obtain rfl : b6 = false := hun
      obtain rfl : u20 = .tuple #[.agg #[va, vb], .bool R] := f5 (hall ⟨5, .data⟩ (by simp) rfl)
      replace f0 := hid f0
      replace f1 := hid f1
      replace f2 := hid f2
      replace f5 := hid f5
      replace f6 := hid f6
      replace f7 := hid f7
      replace f10 := hid f10
      replace hX := hid hX
      clear k9 k4 k5 k6
      refine wpOp_step rfl (fun K hK => ?_)
      go_simp
      exact hK _ _ ⟨u7, u8, .tuple #[.agg #[va, vb], .bool R], u21, u22, u23, u24, u25, .agg #[va, vb], u27, va, vb, rfl, f0.out, f1.out, f2.out, f5.out, fun _ => rfl, f7.out, f10.out, hX.out, hB⟩
    · cases ho
      obtain rfl : b7 = false := hun
      obtain rfl : u20 = .tuple #[.agg #[va, vb], .bool R] := f5 (hall ⟨5, .data⟩ (by simp) rfl)
      replace f0 := hid f0
      replace f1 := hid f1
      replace f2 := hid f2
      replace f5 := hid f5
      replace f6 := hid f6
      replace f7 := hid f7
      replace f10 := hid f10
      replace hX := hid hX
      clear k9 k4 k5 k6
      refine wpOp_step rfl (fun K hK => ?_)
      go_simp
      exact hK _ _ ⟨u7, u8, .tuple #[.agg #[va, vb], .bool R], u21, u22, u23, u24, u25, u26, .bool R, va, vb, rfl, f0.out, f1.out, f2.out, f5.out, f6.out, fun _ => rfl, f10.out, hX.out, hB⟩
    · cases ho
      obtain rfl : b8 = false := hun
      obtain rfl : b9 = false := by cases b9 with
        | false => rfl
        | true => exact absurd (k9 rfl).2.2 Bool.false_ne_true
      replace f0 := hid f0
      replace f1 := hid f1
      replace f2 := hid f2
      replace f5 := hid f5
      replace f6 := hid f6
      replace f7 := hid f7
      replace f10 := hid f10
      replace hX := hid hX
      clear k9 k4 k5 k6
      refine wpOp_step rfl (fun K hK => ?_)
      go_simp
      have hb3 := (Below.refl wq.heap.size wq).alloc (Nat.le_refl _) (.cells #[.slice none 0 0, .slice none 0 0] 27)
      obtain ⟨x3, x4, _⟩ := hX.out.below hb3
      exact hK _ _ ⟨.pointer (some ⟨wq.heap.size, 0, none⟩), u8, u20, u21, u22, u23, u24, u25, u26, u27, va, vb, rfl, f0.out, f1.out, f2.out, f5.out, f6.out, f7.out, f10.out, ⟨x3, x4, fun _ => ⟨_, rfl, hbs, Blk.new wq [.slice none 0 0, .slice none 0 0] 27⟩⟩, hB.trans (hb3.mono hbs)⟩
    · cases ho
      obtain rfl : b9 = false := hun
      obtain rfl : b8 = true := (hall ⟨8, .data⟩ (by simp) rfl)
      obtain rfl : b4 = true := (hall ⟨4, .chain⟩ (by simp) rfl)
      obtain rfl : u26 = .agg #[va, vb] := f6 (hall ⟨6, .data⟩ (by simp) rfl)
      obtain ⟨x3, x4, x8⟩ := hX
      obtain ⟨Bx, rfl, hBx, bX⟩ := x8 rfl
      obtain ⟨rfl, e2, e3⟩ := x4 rfl
      obtain ⟨xa, xc, rfl, _, _⟩ := e2.shape
      obtain ⟨ya, yc, rfl, _, _⟩ := e3.shape
      replace bX : Blk wq Bx [.slice none 0 0, .slice none 0 0] 27 := bX
      have q0 := bX.cell (i := 0) rfl
      have q1 := bX.cell (i := 1) rfl
      have l0 := bX.free 0
      have l1 := bX.free 1
      have X1 := bX.set 0 (.slice xa S.length xc)
      have q3 := X1.cell (i := 1) rfl
      have l3 := X1.free 1
      have X2 := hid (X1.set 1 (.slice ya LL.length yc))
      have G2 := hid ((e2.setCell_other (a := ⟨Bx, 0, none⟩) (fun e => e2.tag bX (by decide) e.symm) (.slice xa S.length xc)).setCell_other (a := ⟨Bx, 1, none⟩) (fun e => e2.tag bX (by decide) e.symm) (.slice ya LL.length yc))
      have G3 := hid ((e3.setCell_other (a := ⟨Bx, 0, none⟩) (fun e => e3.tag bX (by decide) e.symm) (.slice xa S.length xc)).setCell_other (a := ⟨Bx, 1, none⟩) (fun e => e3.tag bX (by decide) e.symm) (.slice ya LL.length yc))
      have B3 := hid ((hB.setCell (p := ⟨Bx, 0, none⟩) hBx (.slice xa S.length xc)).setCell (p := ⟨Bx, 1, none⟩) hBx (.slice ya LL.length yc))
      have HX3 := hid (show b3 = true → ∃ mo mc, u24 = .slice mo M.length mc ∧ OwG ((wq.setCell ⟨Bx, 0, none⟩ (.slice xa S.length xc)).setCell ⟨Bx, 1, none⟩ (.slice ya LL.length yc)) w2.heap.size 69 2 u24 M.length (encW M) from fun e => by
        obtain ⟨mo, mc, g1, g2⟩ := x3 e
        exact ⟨mo, mc, g1, (g2.setCell_other (a := ⟨Bx, 0, none⟩) (fun e => g2.tag bX (by decide) e.symm) (.slice xa S.length xc)).setCell_other (a := ⟨Bx, 1, none⟩) (fun e => g2.tag bX (by decide) e.symm) (.slice ya LL.length yc)⟩)
      clear x3 x4 x8 X1 e2 e3 bX
      replace f0 := hid f0
      replace f1 := hid f1
      replace f2 := hid f2
      replace f5 := hid f5
      replace f6 := hid f6
      replace f7 := hid f7
      replace f10 := hid f10
      clear k9 k4 k5 k6
      refine wpOp_step rfl (fun K hK => ?_)
      go_simp
      exact hK _ _ ⟨.pointer (some ⟨Bx, 0, none⟩), u8, u20, u21, u22, u23, u24, .tuple #[.agg #[.slice xa S.length xc, .slice ya LL.length yc], .bool R], .agg #[.slice xa S.length xc, .slice ya LL.length yc], u27, .slice xa S.length xc, .slice ya LL.length yc, rfl, f0.out, f1.out, f2.out, f5.out, f6.out, f7.out, f10.out, ⟨HX3.out, fun _ => ⟨rfl, G2.out, G3.out⟩, fun _ => ⟨Bx, rfl, hBx, X2.out⟩⟩, B3.out⟩
    · cases ho
      obtain rfl : b10 = false := hun
      obtain rfl : u27 = .bool R := f7 (hall ⟨7, .data⟩ (by simp) rfl)
      replace f0 := hid f0
      replace f1 := hid f1
      replace f2 := hid f2
      replace f5 := hid f5
      replace f6 := hid f6
      replace f7 := hid f7
      replace f10 := hid f10
      replace hX := hid hX
      clear k9 k4 k5 k6
      refine wpOp_step rfl (fun K hK => ?_)
      go_simp
      exact hK _ _ ⟨u7, .bool R, u20, u21, u22, u23, u24, u25, u26, .bool R, va, vb, rfl, f0.out, f1.out, f2.out, f5.out, f6.out, f7.out, fun _ => rfl, hX.out, hB⟩
end Go.Proofs.Ytphhgfgmlfdkiaa
