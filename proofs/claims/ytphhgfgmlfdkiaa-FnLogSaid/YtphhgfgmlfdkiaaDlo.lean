/- Texts joined: Dla, Dlb, Dl, Do. No statement is proved here. -/
import Derived.Test.YtphhgfgmlfdkiaaDra
import Derived.Test.YtphhgfgmlfdkiaaSap
import Derived.Test.YtphhgfgmlfdkiaaRi
import Derived.Test.YtphhgfgmlfdkiaaFr
import Derived.Test.YtphhgfgmlfdkiaaCr
import Derived.Test.YtphhgfgmlfdkiaaWr
import Derived.Test.YtphhgfgmlfdkiaaSy
import Derived.Test.YtphhgfgmlfdkiaaSt

/- The draw l11Log of the specification: the statement that appends a drawn text. -/
namespace Go.Proofs.Ytphhgfgmlfdkiaa
open Go.RowKit
set_option linter.unusedVariables false

theorem seventeen {A : Array Bool} (h : A.size = 17) : ∃ b0 b1 b2 b3 b4 b5 b6 b7 b8 b9 b10 b11 b12 b13 b14 b15 b16, A = #[b0, b1, b2, b3, b4, b5, b6, b7, b8, b9, b10, b11, b12, b13, b14, b15, b16] := by
  obtain ⟨l⟩ := A
  match l, h with
  | [b0, b1, b2, b3, b4, b5, b6, b7, b8, b9, b10, b11, b12, b13, b14, b15, b16], _ => exact ⟨b0, b1, b2, b3, b4, b5, b6, b7, b8, b9, b10, b11, b12, b13, b14, b15, b16, rfl⟩

theorem OwG.eff {C base e sz : Nat} {w w' : World} {v : Value} {n : Nat} {cs : List Value} (h : OwG w base e sz v n cs) (he : Eff C w w') (hb : C < base) : OwG w' base e sz v n cs := by
  refine h.kept he (fun g hg e => ?_)
  have := (h.2.lt g hg).1
  have := Option.some.inj e
  omega
theorem Blk.eff {C : Nat} {w w' : World} {b : Nat} {l : List Value} {t : TypeId} (h : Blk w b l t) (he : Eff C w w') (hne : b ≠ C) : Blk w' b l t := h.kept he (fun e => hne (Option.some.inj e))
theorem Blk.ne {w : World} {b b' : Nat} {l l' : List Value} {t t' : TypeId} (h : Blk w b l t) (k : Blk w b' l' t') (ht : t ≠ t') : b ≠ b' := by
  rintro rfl
  unfold Blk at h k
  rw [h] at k
  injection k with k
  injection k with _ k2
  exact ht k2
theorem DO.eff {C base : Nat} {w w' : World} {v : Value} {S : List ByteArray} {L : List (Int × ByteArray)} (h : DO w base v S L) (he : Eff C w w') (hb : C < base) : DO w' base v S L := by
  obtain ⟨va, vb, e, h1, h2⟩ := h
  exact ⟨va, vb, e, h1.eff he hb, h2.eff he hb⟩

/-- What stands in memory while the statement is done. -/
def Xl (m0 : Nat) (S : List ByteArray) (L : List (Int × ByteArray)) (t q : Int) (s : ByteArray) (b5 b8 b13 b14 : Bool) (u11 u36 u39 va vb : Value) (wq : World) : Prop :=
  (b5 = true → ∃ g, u36 = .slice (some ⟨g, 0, none⟩) 5 5 ∧ m0 ≤ g ∧ Blk wq g [.int .i64 0, .int .i64 5, .int .i64 116, .int .i64 117, .int .i64 240] 3) ∧ (b8 = true → u39 = .tuple #[.agg #[va, vb], .int .i64 (apN S L t (partsP q s)), .bool (apB S L t (partsP q s))] ∧ OwG wq m0 9 1 va S.length (encS S) ∧ OwG wq m0 69 2 vb (apL S L t (partsP q s)).length (encW (apL S L t (partsP q s)))) ∧ (b13 = true → ∃ Bx, u11 = .pointer (some ⟨Bx, 0, none⟩) ∧ m0 ≤ Bx ∧ Blk wq Bx (if b14 = true then [va, vb] else [.slice none 0 0, .slice none 0 0]) 27)
theorem Xl.eff {C m0 : Nat} {S : List ByteArray} {L : List (Int × ByteArray)} {t q : Int} {s : ByteArray} {b5 b8 b13 b14 : Bool} {u11 u36 u39 va vb : Value} {w w' : World} (h : Xl m0 S L t q s b5 b8 b13 b14 u11 u36 u39 va vb w) (he : Eff C w w') (hC : C < m0) : Xl m0 S L t q s b5 b8 b13 b14 u11 u36 u39 va vb w' := by
  obtain ⟨h1, h2, h3⟩ := h
  refine ⟨fun e => ?_, fun e => ?_, fun e => ?_⟩
  · obtain ⟨g, e1, e2, e3⟩ := h1 e
    exact ⟨g, e1, e2, e3.eff he (by omega)⟩
  · obtain ⟨e1, e2, e3⟩ := h2 e
    exact ⟨e1, e2.eff he hC, e3.eff he hC⟩
  · obtain ⟨Bx, e1, e2, e3⟩ := h3 e
    exact ⟨Bx, e1, e2, e3.eff he (by omega)⟩

set_option maxRecDepth 100000 in
set_option maxHeartbeats 6400000 in
theorem app_region (zp : String) (w0 : World) (ao : Option Addr) (n cap C n0 : Nat) (zs : List Int) (t q : Int) (va0 vb0 t1 t2 t3 t4 t6 t9 t10 t14 t15 t16 t17 t18 t19 t20 t21 t22 t23 t24 t25 t26 t27 t28 t29 t43 t44 t45 t46 t47 t48 t49 t50 t51 t52 t53 t54 t55 t56 t57 t58 t59 t60 t61 t62 t63 t64 t65 t66 t67 t68 t69 t70 t71 t72 t73 t74 t75 t76 t77 t78 t79 t80 t81 t82 t83 t84 t85 s11 s12 s13 s30 s31 s32 s33 s34 s35 s36 s37 s38 s39 s40 s41 s42 : Value) (S : List ByteArray) (L : List (Int × ByteArray)) (Q : Exit → Act → World → Prop) (w2 : World) (h1 : S.length ≤ 1048576) (h2 : L.length ≤ 1048576) (htm : t ≤ 9223372036854775807) (base : Nat) (hCb : C < base) (hcode : Code w0 ao n zs) (hcur : Cur w0 ao n cap C w2)
    (hn0 : n0 ≠ C) (N : Blk w2 n0 [va0, vb0] 27) (V : DO w2 base (.agg #[va0, vb0]) S L)
    (hQ : ∀ (s : ByteArray) u30 u31 u32 u33 u34 u35 u36 u37 u38 u39 u40 u41 u42 Bx va vb wq, s.size ≤ 240 → w2.heap.size ≤ Bx → Blk wq Bx [va, vb] 27 → OwG wq w2.heap.size 9 1 va S.length (encS S) → OwG wq w2.heap.size 69 2 vb (apL S L t (partsP q s)).length (encW (apL S L t (partsP q s))) → Cur w0 ao n cap C wq → Eff C w2 wq → Q .normal { tmps := #[.pointer (some ⟨C, 0, none⟩), t1, t2, t3, t4, .pointer (some ⟨n0, 0, none⟩), t6, .int .i64 t, .int .i64 q, t9, t10, .pointer (some ⟨Bx, 0, none⟩), .int .i64 (apN S L t (partsP q s)), .bool (apB S L t (partsP q s)), t14, t15, t16, t17, t18, t19, t20, t21, t22, t23, t24, t25, t26, t27, t28, t29, u30, u31, u32, u33, u34, u35, u36, u37, u38, u39, u40, u41, u42, t43, t44, t45, t46, t47, t48, t49, t50, t51, t52, t53, t54, t55, t56, t57, t58, t59, t60, t61, t62, t63, t64, t65, t66, t67, t68, t69, t70, t71, t72, t73, t74, t75, t76, t77, t78, t79, t80, t81, t82, t83, t84, t85], defers := [] } wq) :
    (Code.region 7 #[{ dst := some 31, op := Op.load 27 (Operand.tmp 5), type := 27, pos := zp, after := #[], guard := none }, { dst := some 32, op := Op.move (Operand.tmp 7), type := 3, pos := zp, after := #[], guard := none }, { dst := some 33, op := Op.move (Operand.tmp 8), type := 3, pos := zp, after := #[], guard := none }, { dst := some 34, op := Op.move (Operand.tmp 0), type := 60, pos := zp, after := #[], guard := none }, { dst := some 35, op := Op.move (Operand.tmp 0), type := 60, pos := zp, after := #[], guard := none }, { dst := some 36, op := Op.buildSlice 28 5 #[(0, Operand.const (Value.int IntKind.i64 0)), (1, Operand.const (Value.int IntKind.i64 5)), (2, Operand.const (Value.int IntKind.i64 116)), (3, Operand.const (Value.int IntKind.i64 117)), (4, Operand.const (Value.int IntKind.i64 240))], type := 28, pos := zp, after := #[], guard := none }, { dst := some 37, op := Op.call { callee := Callee.value (Operand.func 40), args := #[Operand.tmp 35, Operand.tmp 36], argTypes := #[60, 28] }, type := 3, pos := zp, after := #[{ on := 4, ground := Ground.data }, { on := 5, ground := Ground.data }], guard := none }, { dst := some 38, op := Op.call { callee := Callee.value (Operand.func 39), args := #[Operand.tmp 34, Operand.tmp 37], argTypes := #[60, 3] }, type := 9, pos := zp, after := #[{ on := 3, ground := Ground.data }, { on := 6, ground := Ground.data }, { on := 6, ground := Ground.chain }], guard := none }, { dst := some 39, op := Op.call { callee := Callee.value (Operand.func 34), args := #[Operand.tmp 31, Operand.tmp 32, Operand.tmp 33, Operand.tmp 38], argTypes := #[27, 3, 3, 9] }, type := 31, pos := zp, after := #[{ on := 0, ground := Ground.data }, { on := 1, ground := Ground.data }, { on := 2, ground := Ground.data }, { on := 7, ground := Ground.data }, { on := 7, ground := Ground.chain }], guard := none }, { dst := some 30, op := Op.move (Operand.tmp 39), type := 31, pos := zp, after := #[{ on := 8, ground := Ground.data }], guard := none }, { dst := some 40, op := Op.extract (Operand.tmp 30) 0, type := 27, pos := zp, after := #[{ on := 9, ground := Ground.data }], guard := none }, { dst := some 41, op := Op.extract (Operand.tmp 30) 1, type := 3, pos := zp, after := #[{ on := 9, ground := Ground.data }, { on := 14, ground := Ground.gcOnly Departure.lateStores }], guard := none }, { dst := some 42, op := Op.extract (Operand.tmp 30) 2, type := 4, pos := zp, after := #[{ on := 9, ground := Ground.data }, { on := 15, ground := Ground.gcOnly Departure.lateStores }], guard := none }, { dst := some 11, op := Op.alloc 27, type := 0, pos := zp, after := #[], guard := none }, { dst := none, op := Op.store 27 (Operand.tmp 11) (Operand.tmp 40), type := 0, pos := zp, after := #[{ on := 13, ground := Ground.data }, { on := 10, ground := Ground.data }, { on := 8, ground := Ground.chain }, { on := 0, ground := Ground.phase }, { on := 1, ground := Ground.phase }, { on := 2, ground := Ground.phase }, { on := 3, ground := Ground.phase }, { on := 4, ground := Ground.phase }, { on := 5, ground := Ground.phase }, { on := 6, ground := Ground.phase }, { on := 7, ground := Ground.phase }, { on := 8, ground := Ground.phase }, { on := 9, ground := Ground.phase }, { on := 10, ground := Ground.phase }, { on := 11, ground := Ground.textOnly Departure.lateStores }, { on := 12, ground := Ground.textOnly Departure.lateStores }, { on := 13, ground := Ground.phase }], guard := none }, { dst := some 12, op := Op.assign (Operand.tmp 41), type := 3, pos := zp, after := #[{ on := 11, ground := Ground.data }, { on := 14, ground := Ground.chain }, { on := 0, ground := Ground.phase }, { on := 1, ground := Ground.phase }, { on := 2, ground := Ground.phase }, { on := 3, ground := Ground.phase }, { on := 4, ground := Ground.phase }, { on := 5, ground := Ground.phase }, { on := 6, ground := Ground.phase }, { on := 7, ground := Ground.phase }, { on := 8, ground := Ground.phase }, { on := 9, ground := Ground.phase }, { on := 10, ground := Ground.phase }, { on := 11, ground := Ground.phase }, { on := 12, ground := Ground.textOnly Departure.lateStores }, { on := 13, ground := Ground.phase }, { on := 14, ground := Ground.phase }], guard := none }, { dst := some 13, op := Op.assign (Operand.tmp 42), type := 4, pos := zp, after := #[{ on := 12, ground := Ground.data }, { on := 15, ground := Ground.chain }, { on := 0, ground := Ground.phase }, { on := 1, ground := Ground.phase }, { on := 2, ground := Ground.phase }, { on := 3, ground := Ground.phase }, { on := 4, ground := Ground.phase }, { on := 5, ground := Ground.phase }, { on := 6, ground := Ground.phase }, { on := 7, ground := Ground.phase }, { on := 8, ground := Ground.phase }, { on := 9, ground := Ground.phase }, { on := 10, ground := Ground.phase }, { on := 11, ground := Ground.phase }, { on := 12, ground := Ground.phase }, { on := 13, ground := Ground.phase }, { on := 14, ground := Ground.phase }, { on := 15, ground := Ground.phase }], guard := none }] true).wp Try.prog Q { tmps := #[.pointer (some ⟨C, 0, none⟩), t1, t2, t3, t4, .pointer (some ⟨n0, 0, none⟩), t6, .int .i64 t, .int .i64 q, t9, t10, s11, s12, s13, t14, t15, t16, t17, t18, t19, t20, t21, t22, t23, t24, t25, t26, t27, t28, t29, s30, s31, s32, s33, s34, s35, s36, s37, s38, s39, s40, s41, s42, t43, t44, t45, t46, t47, t48, t49, t50, t51, t52, t53, t54, t55, t56, t57, t58, t59, t60, t61, t62, t63, t64, t65, t66, t67, t68, t69, t70, t71, t72, t73, t74, t75, t76, t77, t78, t79, t80, t81, t82, t83, t84, t85], defers := [] } w2 := by
  have HQ := hid hQ
  clear hQ
  have HCO := hid hcode
  have hClt := hcur.lt
  have HU0 := hid hcur
  clear hcode hcur
  refine wp_region_any (by kernel_rfl) ?_
  refine wpAny_inv (fun listed ac wq => ∃ s u11 u12 u13 u30 u31 u32 u33 u34 u35 u36 u37 u38 u39 u40 u41 u42 va vb, ac = { tmps := #[.pointer (some ⟨C, 0, none⟩), t1, t2, t3, t4, .pointer (some ⟨n0, 0, none⟩), t6, .int .i64 t, .int .i64 q, t9, t10, u11, u12, u13, t14, t15, t16, t17, t18, t19, t20, t21, t22, t23, t24, t25, t26, t27, t28, t29, u30, u31, u32, u33, u34, u35, u36, u37, u38, u39, u40, u41, u42, t43, t44, t45, t46, t47, t48, t49, t50, t51, t52, t53, t54, t55, t56, t57, t58, t59, t60, t61, t62, t63, t64, t65, t66, t67, t68, t69, t70, t71, t72, t73, t74, t75, t76, t77, t78, t79, t80, t81, t82, t83, t84, t85], defers := [] } ∧ (listed.getD 0 false = true → u31 = .agg #[va0, vb0]) ∧ (listed.getD 1 false = true → u32 = .int .i64 t) ∧ (listed.getD 2 false = true → u33 = .int .i64 q) ∧ (listed.getD 3 false = true → u34 = .pointer (some ⟨C, 0, none⟩)) ∧ (listed.getD 4 false = true → u35 = .pointer (some ⟨C, 0, none⟩)) ∧ (listed.getD 6 false = true → ∃ m : Nat, u37 = .int .i64 m ∧ m ≤ 240) ∧ (listed.getD 7 false = true → u38 = .string s ∧ s.size ≤ 240) ∧ (listed.getD 9 false = true → u30 = .tuple #[.agg #[va, vb], .int .i64 (apN S L t (partsP q s)), .bool (apB S L t (partsP q s))]) ∧ (listed.getD 10 false = true → u40 = .agg #[va, vb]) ∧ (listed.getD 11 false = true → u41 = .int .i64 (apN S L t (partsP q s))) ∧ (listed.getD 12 false = true → u42 = .bool (apB S L t (partsP q s))) ∧ (listed.getD 15 false = true → u12 = .int .i64 (apN S L t (partsP q s))) ∧ (listed.getD 16 false = true → u13 = .bool (apB S L t (partsP q s))) ∧ Xl w2.heap.size S L t q s (listed.getD 5 false) (listed.getD 8 false) (listed.getD 13 false) (listed.getD 14 false) u11 u36 u39 va vb wq ∧ Cur w0 ao n cap C wq ∧ Eff C w2 wq) ?hpre ?hstep ?hend _ _ _ _ rfl (Nat.le_refl 17) (fun j oj _ hl => absurd hl (by simp [Array.getD])) ?start
  case hpre => exact pre_of (by kernel_rfl)
  case start =>
    exact ⟨ByteArray.empty, s11, s12, s13, s30, s31, s32, s33, s34, s35, s36, s37, s38, s39, s40, s41, s42, undef, undef, rfl, fun h => absurd (show false = true from h) Bool.false_ne_true, fun h => absurd (show false = true from h) Bool.false_ne_true, fun h => absurd (show false = true from h) Bool.false_ne_true, fun h => absurd (show false = true from h) Bool.false_ne_true, fun h => absurd (show false = true from h) Bool.false_ne_true, fun h => absurd (show false = true from h) Bool.false_ne_true, fun h => absurd (show false = true from h) Bool.false_ne_true, fun h => absurd (show false = true from h) Bool.false_ne_true, fun h => absurd (show false = true from h) Bool.false_ne_true, fun h => absurd (show false = true from h) Bool.false_ne_true, fun h => absurd (show false = true from h) Bool.false_ne_true, fun h => absurd (show false = true from h) Bool.false_ne_true, fun h => absurd (show false = true from h) Bool.false_ne_true, ⟨fun h => absurd (show false = true from h) Bool.false_ne_true, fun h => absurd (show false = true from h) Bool.false_ne_true, fun h => absurd (show false = true from h) Bool.false_ne_true⟩, HU0.out.below (Below.refl _ _).drew, (Eff.refl _ _).drew⟩
  case hend =>
    rintro listed ac wq hall ⟨s, u11, u12, u13, u30, u31, u32, u33, u34, u35, u36, u37, u38, u39, u40, u41, u42, va, vb, rfl, f0, f1, f2, f3, f4, f6, f7, f9, f10, f11, f12, f15, f16, hX, hU, hE⟩
    rw [hall 5 (show 5 < 17 by decide)] at hX
    rw [hall 8 (show 8 < 17 by decide)] at hX
    rw [hall 13 (show 13 < 17 by decide)] at hX
    rw [hall 14 (show 14 < 17 by decide)] at hX
    obtain ⟨x5, x8, x13⟩ := hX
    obtain ⟨e1, e2, e3⟩ := x8 rfl
    obtain ⟨Bx, rfl, e4, e5⟩ := x13 rfl
    obtain rfl := f15 (hall 15 (show 15 < 17 by decide))
    obtain rfl := f16 (hall 16 (show 16 < 17 by decide))
    obtain ⟨_, hs⟩ := f7 (hall 7 (show 7 < 17 by decide))
    exact HQ.out s _ _ _ _ _ _ _ _ _ _ _ _ _ Bx va vb wq hs e4 e5 e2 e3 hU hE
  case hstep =>
    rintro listed ac wq i o hsz ⟨s, u11, u12, u13, u30, u31, u32, u33, u34, u35, u36, u37, u38, u39, u40, u41, u42, va, vb, rfl, f0, f1, f2, f3, f4, f6, f7, f9, f10, f11, f12, f15, f16, hX, hU, hE⟩ ho hall hun hcl
    obtain ⟨b0, b1, b2, b3, b4, b5, b6, b7, b8, b9, b10, b11, b12, b13, b14, b15, b16, rfl⟩ := seventeen hsz
    have hin : i < 17 := (Array.getElem?_eq_some_iff.1 ho).1
    have N1 := N.eff hE hn0
    have c0 := N1.cell (i := 0) rfl
    have c1 := N1.cell (i := 1) rfl
    have V1 := hid (V.eff hE hCb)
    have hbs := hE.size
    have k8_7 : b8 = true → b7 = true := fun h => hcl 8 _ rfl h ⟨7, .data⟩ (by simp) rfl
    have k9_8 : b9 = true → b8 = true := fun h => hcl 9 _ rfl h ⟨8, .data⟩ (by simp) rfl
    have k10_9 : b10 = true → b9 = true := fun h => hcl 10 _ rfl h ⟨9, .data⟩ (by simp) rfl
    have k11_9 : b11 = true → b9 = true := fun h => hcl 11 _ rfl h ⟨9, .data⟩ (by simp) rfl
    have k12_9 : b12 = true → b9 = true := fun h => hcl 12 _ rfl h ⟨9, .data⟩ (by simp) rfl
    have k14_10 : b14 = true → b10 = true := fun h => hcl 14 _ rfl h ⟨10, .data⟩ (by simp) rfl
    have k14_13 : b14 = true → b13 = true := fun h => hcl 14 _ rfl h ⟨13, .data⟩ (by simp) rfl
    have k15_11 : b15 = true → b11 = true := fun h => hcl 15 _ rfl h ⟨11, .data⟩ (by simp) rfl
    have k16_12 : b16 = true → b12 = true := fun h => hcl 16 _ rfl h ⟨12, .data⟩ (by simp) rfl
    clear hcl
    obtain rfl | rfl | rfl | rfl | rfl | rfl | rfl | rfl | rfl | rfl | rfl | rfl | rfl | rfl | rfl | rfl | rfl : i = 0 ∨ i = 1 ∨ i = 2 ∨ i = 3 ∨ i = 4 ∨ i = 5 ∨ i = 6 ∨ i = 7 ∨ i = 8 ∨ i = 9 ∨ i = 10 ∨ i = 11 ∨ i = 12 ∨ i = 13 ∨ i = 14 ∨ i = 15 ∨ i = 16 := by omega
    · cases ho
      obtain rfl : b0 = false := hun
      replace f0 := hid f0
      replace f1 := hid f1
      replace f2 := hid f2
      replace f3 := hid f3
      replace f4 := hid f4
      replace f6 := hid f6
      replace f7 := hid f7
      replace f9 := hid f9
      replace f10 := hid f10
      replace f11 := hid f11
      replace f12 := hid f12
      replace f15 := hid f15
      replace f16 := hid f16
      replace hX := hid hX
      replace hU := hid hU
      replace hE := hid hE
      clear k8_7 k9_8 k10_9 k11_9 k12_9 k14_10 k14_13 k15_11 k16_12
      refine wpOp_step rfl (fun K hK => ?_)
      go_simp
      exact hK _ _ ⟨s, u11, u12, u13, u30, .agg #[va0, vb0], u32, u33, u34, u35, u36, u37, u38, u39, u40, u41, u42, va, vb, rfl, fun _ => rfl, f1.out, f2.out, f3.out, f4.out, f6.out, f7.out, f9.out, f10.out, f11.out, f12.out, f15.out, f16.out, hX.out, hU.out, hE.out⟩
    · cases ho
      obtain rfl : b1 = false := hun
      replace f0 := hid f0
      replace f1 := hid f1
      replace f2 := hid f2
      replace f3 := hid f3
      replace f4 := hid f4
      replace f6 := hid f6
      replace f7 := hid f7
      replace f9 := hid f9
      replace f10 := hid f10
      replace f11 := hid f11
      replace f12 := hid f12
      replace f15 := hid f15
      replace f16 := hid f16
      replace hX := hid hX
      replace hU := hid hU
      replace hE := hid hE
      clear k8_7 k9_8 k10_9 k11_9 k12_9 k14_10 k14_13 k15_11 k16_12
      refine wpOp_step rfl (fun K hK => ?_)
      go_simp
      exact hK _ _ ⟨s, u11, u12, u13, u30, u31, .int .i64 t, u33, u34, u35, u36, u37, u38, u39, u40, u41, u42, va, vb, rfl, f0.out, fun _ => rfl, f2.out, f3.out, f4.out, f6.out, f7.out, f9.out, f10.out, f11.out, f12.out, f15.out, f16.out, hX.out, hU.out, hE.out⟩
    · cases ho
      obtain rfl : b2 = false := hun
      replace f0 := hid f0
      replace f1 := hid f1
      replace f2 := hid f2
      replace f3 := hid f3
      replace f4 := hid f4
      replace f6 := hid f6
      replace f7 := hid f7
      replace f9 := hid f9
      replace f10 := hid f10
      replace f11 := hid f11
      replace f12 := hid f12
      replace f15 := hid f15
      replace f16 := hid f16
      replace hX := hid hX
      replace hU := hid hU
      replace hE := hid hE
      clear k8_7 k9_8 k10_9 k11_9 k12_9 k14_10 k14_13 k15_11 k16_12
      refine wpOp_step rfl (fun K hK => ?_)
      go_simp
      exact hK _ _ ⟨s, u11, u12, u13, u30, u31, u32, .int .i64 q, u34, u35, u36, u37, u38, u39, u40, u41, u42, va, vb, rfl, f0.out, f1.out, fun _ => rfl, f3.out, f4.out, f6.out, f7.out, f9.out, f10.out, f11.out, f12.out, f15.out, f16.out, hX.out, hU.out, hE.out⟩
    · cases ho
      obtain rfl : b3 = false := hun
      replace f0 := hid f0
      replace f1 := hid f1
      replace f2 := hid f2
      replace f3 := hid f3
      replace f4 := hid f4
      replace f6 := hid f6
      replace f7 := hid f7
      replace f9 := hid f9
      replace f10 := hid f10
      replace f11 := hid f11
      replace f12 := hid f12
      replace f15 := hid f15
      replace f16 := hid f16
      replace hX := hid hX
      replace hU := hid hU
      replace hE := hid hE
      clear k8_7 k9_8 k10_9 k11_9 k12_9 k14_10 k14_13 k15_11 k16_12
      refine wpOp_step rfl (fun K hK => ?_)
      go_simp
      exact hK _ _ ⟨s, u11, u12, u13, u30, u31, u32, u33, .pointer (some ⟨C, 0, none⟩), u35, u36, u37, u38, u39, u40, u41, u42, va, vb, rfl, f0.out, f1.out, f2.out, fun _ => rfl, f4.out, f6.out, f7.out, f9.out, f10.out, f11.out, f12.out, f15.out, f16.out, hX.out, hU.out, hE.out⟩
    · cases ho
      obtain rfl : b4 = false := hun
      replace f0 := hid f0
      replace f1 := hid f1
      replace f2 := hid f2
      replace f3 := hid f3
      replace f4 := hid f4
      replace f6 := hid f6
      replace f7 := hid f7
      replace f9 := hid f9
      replace f10 := hid f10
      replace f11 := hid f11
      replace f12 := hid f12
      replace f15 := hid f15
      replace f16 := hid f16
      replace hX := hid hX
      replace hU := hid hU
      replace hE := hid hE
      clear k8_7 k9_8 k10_9 k11_9 k12_9 k14_10 k14_13 k15_11 k16_12
      refine wpOp_step rfl (fun K hK => ?_)
      go_simp
      exact hK _ _ ⟨s, u11, u12, u13, u30, u31, u32, u33, u34, .pointer (some ⟨C, 0, none⟩), u36, u37, u38, u39, u40, u41, u42, va, vb, rfl, f0.out, f1.out, f2.out, f3.out, fun _ => rfl, f6.out, f7.out, f9.out, f10.out, f11.out, f12.out, f15.out, f16.out, hX.out, hU.out, hE.out⟩
    · cases ho
      obtain rfl : b5 = false := hun
      replace f0 := hid f0
      replace f1 := hid f1
      replace f2 := hid f2
      replace f3 := hid f3
      replace f4 := hid f4
      replace f6 := hid f6
      replace f7 := hid f7
      replace f9 := hid f9
      replace f10 := hid f10
      replace f11 := hid f11
      replace f12 := hid f12
      replace f15 := hid f15
      replace f16 := hid f16
      replace hX := hid hX
      replace hU := hid hU
      replace hE := hid hE
      clear k8_7 k9_8 k10_9 k11_9 k12_9 k14_10 k14_13 k15_11 k16_12
      refine wpOp_step rfl (fun K hK => ?_)
      go_simp
      have ha := (Eff.refl C wq).alloc (.cells [.int .i64 0, .int .i64 5, .int .i64 116, .int .i64 117, .int .i64 240].toArray 3)
      obtain ⟨_, x8, x13⟩ := hX.out.eff ha (by omega)
      refine hK _ _ ⟨s, u11, u12, u13, u30, u31, u32, u33, u34, u35, .slice (some ⟨wq.heap.size, 0, none⟩) 5 5, u37, u38, u39, u40, u41, u42, va, vb, rfl, f0.out, f1.out, f2.out, f3.out, f4.out, f6.out, f7.out, f9.out, f10.out, f11.out, f12.out, f15.out, f16.out, ⟨fun _ => ⟨wq.heap.size, rfl, hbs, ?_⟩, x8, x13⟩, hU.out.below ((Below.refl _ _).alloc (Nat.le_refl _) _), hE.out.alloc _⟩
      exact Blk.new wq [.int .i64 0, .int .i64 5, .int .i64 116, .int .i64 117, .int .i64 240] 3
    · cases ho
      obtain rfl : b6 = false := hun
      obtain rfl : u35 = .pointer (some ⟨C, 0, none⟩) := f4 (hall ⟨4, .data⟩ (by simp) rfl)
      obtain rfl : b5 = true := (hall ⟨5, .data⟩ (by simp) rfl)
      obtain ⟨g, rfl, hg, bg⟩ := hX.1 rfl
      replace f0 := hid f0
      replace f1 := hid f1
      replace f2 := hid f2
      replace f3 := hid f3
      replace f4 := hid f4
      replace f6 := hid f6
      replace f7 := hid f7
      replace f9 := hid f9
      replace f10 := hid f10
      replace f11 := hid f11
      replace f12 := hid f12
      replace f15 := hid f15
      replace f16 := hid f16
      replace hX := hid hX
      replace hU := hid hU
      replace hE := hid hE
      clear k8_7 k9_8 k10_9 k11_9 k12_9 k14_10 k14_13 k15_11 k16_12
      refine wpOp_step rfl (fun K hK => ?_)
      go_simp
      refine (pick_any w0 ao n cap C zs g 5 5 [0, 5, 116, 117, 240] wq HCO.out hU.out (by decide) rfl (by decide) (by omega) ?_).mono ?_
      · intro j hj
        match j, hj with
        | 0, _ => exact bg.cell rfl
        | 1, _ => exact bg.cell rfl
        | 2, _ => exact bg.cell rfl
        | 3, _ => exact bg.cell rfl
        | 4, _ => exact bg.cell rfl
      rintro e w3 ⟨j, hj, rfl, hu3, he3⟩
      have hm := pick_mem ([0, 5, 116, 117, 240] : List Int) (fun x => 0 ≤ x ∧ x ≤ 240) (by decide) j hj
      generalize List.getD ([0, 5, 116, 117, 240] : List Int) j 0 = Y at *
      obtain ⟨m, rfl⟩ : ∃ m : Nat, Y = m := ⟨Y.toNat, by omega⟩
      exact hK _ _ ⟨s, u11, u12, u13, u30, u31, u32, u33, u34, .pointer (some ⟨C, 0, none⟩), .slice (some ⟨g, 0, none⟩) 5 5, .int .i64 (m : Int), u38, u39, u40, u41, u42, va, vb, rfl, f0.out, f1.out, f2.out, f3.out, f4.out, fun _ => ⟨m, rfl, by omega⟩, f7.out, f9.out, f10.out, f11.out, f12.out, f15.out, f16.out, hX.out.eff he3 (by omega), hu3, hE.out.trans he3⟩
    · cases ho
      obtain rfl : b7 = false := hun
      obtain rfl : b8 = false := by cases b8 with
        | false => rfl
        | true => exact absurd (k8_7 rfl) Bool.false_ne_true
      obtain rfl : b9 = false := by cases b9 with
        | false => rfl
        | true => exact absurd (k9_8 rfl) Bool.false_ne_true
      obtain rfl : b11 = false := by cases b11 with
        | false => rfl
        | true => exact absurd (k11_9 rfl) Bool.false_ne_true
      obtain rfl : b12 = false := by cases b12 with
        | false => rfl
        | true => exact absurd (k12_9 rfl) Bool.false_ne_true
      obtain rfl : b15 = false := by cases b15 with
        | false => rfl
        | true => exact absurd (k15_11 rfl) Bool.false_ne_true
      obtain rfl : b16 = false := by cases b16 with
        | false => rfl
        | true => exact absurd (k16_12 rfl) Bool.false_ne_true
      obtain rfl : u34 = .pointer (some ⟨C, 0, none⟩) := f3 (hall ⟨3, .data⟩ (by simp) rfl)
      obtain ⟨m, rfl, hm⟩ := f6 (hall ⟨6, .data⟩ (by simp) rfl)
      replace f0 := hid f0
      replace f1 := hid f1
      replace f2 := hid f2
      replace f3 := hid f3
      replace f4 := hid f4
      replace f6 := hid f6
      replace f7 := hid f7
      replace f9 := hid f9
      replace f10 := hid f10
      replace f11 := hid f11
      replace f12 := hid f12
      replace f15 := hid f15
      replace f16 := hid f16
      replace hX := hid hX
      replace hU := hid hU
      replace hE := hid hE
      clear k8_7 k9_8 k10_9 k11_9 k12_9 k14_10 k14_13 k15_11 k16_12
      refine wpOp_step rfl (fun K hK => ?_)
      go_simp
      refine (any_any w0 ao n cap C zs m wq (by omega) HCO.out hU.out).mono ?_
      rintro e w3 ⟨s3, rfl, hs3, hu3, he3⟩
      obtain ⟨x5, _, x13⟩ := hX.out.eff he3 (by omega)
      exact hK _ _ ⟨s3, u11, u12, u13, u30, u31, u32, u33, .pointer (some ⟨C, 0, none⟩), u35, u36, .int .i64 (m : Int), .string s3, u39, u40, u41, u42, va, vb, rfl, f0.out, f1.out, f2.out, f3.out, f4.out, f6.out, fun _ => ⟨rfl, by omega⟩, fun h => absurd (show false = true from h) Bool.false_ne_true, f10.out, fun h => absurd (show false = true from h) Bool.false_ne_true, fun h => absurd (show false = true from h) Bool.false_ne_true, fun h => absurd (show false = true from h) Bool.false_ne_true, fun h => absurd (show false = true from h) Bool.false_ne_true, ⟨x5, fun h => absurd (show false = true from h) Bool.false_ne_true, x13⟩, hu3, hE.out.trans he3⟩
    · cases ho
      obtain rfl : b8 = false := hun
      obtain rfl : b9 = false := by cases b9 with
        | false => rfl
        | true => exact absurd (k9_8 rfl) Bool.false_ne_true
      obtain rfl : b10 = false := by cases b10 with
        | false => rfl
        | true => exact absurd (k10_9 rfl) Bool.false_ne_true
      obtain rfl : b14 = false := by cases b14 with
        | false => rfl
        | true => exact absurd (k14_10 rfl) Bool.false_ne_true
      obtain rfl : u31 = .agg #[va0, vb0] := f0 (hall ⟨0, .data⟩ (by simp) rfl)
      obtain rfl : u32 = .int .i64 t := f1 (hall ⟨1, .data⟩ (by simp) rfl)
      obtain rfl : u33 = .int .i64 q := f2 (hall ⟨2, .data⟩ (by simp) rfl)
      obtain ⟨rfl, hs⟩ := f7 (hall ⟨7, .data⟩ (by simp) rfl)
      replace f0 := hid f0
      replace f1 := hid f1
      replace f2 := hid f2
      replace f3 := hid f3
      replace f4 := hid f4
      replace f6 := hid f6
      replace f7 := hid f7
      replace f9 := hid f9
      replace f10 := hid f10
      replace f11 := hid f11
      replace f12 := hid f12
      replace f15 := hid f15
      replace f16 := hid f16
      replace hX := hid hX
      replace hU := hid hU
      replace hE := hid hE
      clear k8_7 k9_8 k10_9 k11_9 k12_9 k14_10 k14_13 k15_11 k16_12
      refine wpOp_step rfl (fun K hK => ?_)
      go_simp
      refine (spec_append _ S L t q s wq h1 h2 (by omega) htm V1.out.dp).mono ?_
      rintro e w3 ⟨v3, rfl, ⟨va3, vb3, rfl, ho1, ho2⟩, hb3⟩
      have he3 := (Eff.refl C wq).ofBelow hb3
      obtain ⟨x5, _, x13⟩ := hX.out.eff he3 (by omega)
      refine hK _ _ ⟨s, u11, u12, u13, u30, .agg #[va0, vb0], .int .i64 t, .int .i64 q, u34, u35, u36, u37, .string s, .tuple #[.agg #[va3, vb3], .int .i64 (apN S L t (partsP q s)), .bool (apB S L t (partsP q s))], u40, u41, u42, va3, vb3, rfl, f0.out, f1.out, f2.out, f3.out, f4.out, f6.out, f7.out, fun h => absurd (show false = true from h) Bool.false_ne_true, fun h => absurd (show false = true from h) Bool.false_ne_true, f11.out, f12.out, f15.out, f16.out, ⟨x5, fun _ => ⟨rfl, ho1.mono hbs, ho2.mono hbs⟩, fun e => ?_⟩, hU.out.below hb3, hE.out.trans he3⟩
      exact x13 e
    · cases ho
      obtain rfl : b9 = false := hun
      obtain rfl : b8 = true := (hall ⟨8, .data⟩ (by simp) rfl)
      obtain rfl : u39 = .tuple #[.agg #[va, vb], .int .i64 (apN S L t (partsP q s)), .bool (apB S L t (partsP q s))] := (hX.2.1 rfl).1
      replace f0 := hid f0
      replace f1 := hid f1
      replace f2 := hid f2
      replace f3 := hid f3
      replace f4 := hid f4
      replace f6 := hid f6
      replace f7 := hid f7
      replace f9 := hid f9
      replace f10 := hid f10
      replace f11 := hid f11
      replace f12 := hid f12
      replace f15 := hid f15
      replace f16 := hid f16
      replace hX := hid hX
      replace hU := hid hU
      replace hE := hid hE
      clear k8_7 k9_8 k10_9 k11_9 k12_9 k14_10 k14_13 k15_11 k16_12
      refine wpOp_step rfl (fun K hK => ?_)
      go_simp
      exact hK _ _ ⟨s, u11, u12, u13, .tuple #[.agg #[va, vb], .int .i64 (apN S L t (partsP q s)), .bool (apB S L t (partsP q s))], u31, u32, u33, u34, u35, u36, u37, u38, .tuple #[.agg #[va, vb], .int .i64 (apN S L t (partsP q s)), .bool (apB S L t (partsP q s))], u40, u41, u42, va, vb, rfl, f0.out, f1.out, f2.out, f3.out, f4.out, f6.out, f7.out, fun _ => rfl, f10.out, f11.out, f12.out, f15.out, f16.out, hX.out, hU.out, hE.out⟩
    · cases ho
      obtain rfl : b10 = false := hun
      obtain rfl : u30 = .tuple #[.agg #[va, vb], .int .i64 (apN S L t (partsP q s)), .bool (apB S L t (partsP q s))] := f9 (hall ⟨9, .data⟩ (by simp) rfl)
      replace f0 := hid f0
      replace f1 := hid f1
      replace f2 := hid f2
      replace f3 := hid f3
      replace f4 := hid f4
      replace f6 := hid f6
      replace f7 := hid f7
      replace f9 := hid f9
      replace f10 := hid f10
      replace f11 := hid f11
      replace f12 := hid f12
      replace f15 := hid f15
      replace f16 := hid f16
      replace hX := hid hX
      replace hU := hid hU
      replace hE := hid hE
      clear k8_7 k9_8 k10_9 k11_9 k12_9 k14_10 k14_13 k15_11 k16_12
      refine wpOp_step rfl (fun K hK => ?_)
      go_simp
      exact hK _ _ ⟨s, u11, u12, u13, .tuple #[.agg #[va, vb], .int .i64 (apN S L t (partsP q s)), .bool (apB S L t (partsP q s))], u31, u32, u33, u34, u35, u36, u37, u38, u39, .agg #[va, vb], u41, u42, va, vb, rfl, f0.out, f1.out, f2.out, f3.out, f4.out, f6.out, f7.out, f9.out, fun _ => rfl, f11.out, f12.out, f15.out, f16.out, hX.out, hU.out, hE.out⟩
    · cases ho
      obtain rfl : b11 = false := hun
      obtain rfl : u30 = .tuple #[.agg #[va, vb], .int .i64 (apN S L t (partsP q s)), .bool (apB S L t (partsP q s))] := f9 (hall ⟨9, .data⟩ (by simp) rfl)
      replace f0 := hid f0
      replace f1 := hid f1
      replace f2 := hid f2
      replace f3 := hid f3
      replace f4 := hid f4
      replace f6 := hid f6
      replace f7 := hid f7
      replace f9 := hid f9
      replace f10 := hid f10
      replace f11 := hid f11
      replace f12 := hid f12
      replace f15 := hid f15
      replace f16 := hid f16
      replace hX := hid hX
      replace hU := hid hU
      replace hE := hid hE
      clear k8_7 k9_8 k10_9 k11_9 k12_9 k14_10 k14_13 k15_11 k16_12
      refine wpOp_step rfl (fun K hK => ?_)
      go_simp
      exact hK _ _ ⟨s, u11, u12, u13, .tuple #[.agg #[va, vb], .int .i64 (apN S L t (partsP q s)), .bool (apB S L t (partsP q s))], u31, u32, u33, u34, u35, u36, u37, u38, u39, u40, .int .i64 (apN S L t (partsP q s)), u42, va, vb, rfl, f0.out, f1.out, f2.out, f3.out, f4.out, f6.out, f7.out, f9.out, f10.out, fun _ => rfl, f12.out, f15.out, f16.out, hX.out, hU.out, hE.out⟩
    · cases ho
      obtain rfl : b12 = false := hun
      obtain rfl : u30 = .tuple #[.agg #[va, vb], .int .i64 (apN S L t (partsP q s)), .bool (apB S L t (partsP q s))] := f9 (hall ⟨9, .data⟩ (by simp) rfl)
      replace f0 := hid f0
      replace f1 := hid f1
      replace f2 := hid f2
      replace f3 := hid f3
      replace f4 := hid f4
      replace f6 := hid f6
      replace f7 := hid f7
      replace f9 := hid f9
      replace f10 := hid f10
      replace f11 := hid f11
      replace f12 := hid f12
      replace f15 := hid f15
      replace f16 := hid f16
      replace hX := hid hX
      replace hU := hid hU
      replace hE := hid hE
      clear k8_7 k9_8 k10_9 k11_9 k12_9 k14_10 k14_13 k15_11 k16_12
      refine wpOp_step rfl (fun K hK => ?_)
      go_simp
      exact hK _ _ ⟨s, u11, u12, u13, .tuple #[.agg #[va, vb], .int .i64 (apN S L t (partsP q s)), .bool (apB S L t (partsP q s))], u31, u32, u33, u34, u35, u36, u37, u38, u39, u40, u41, .bool (apB S L t (partsP q s)), va, vb, rfl, f0.out, f1.out, f2.out, f3.out, f4.out, f6.out, f7.out, f9.out, f10.out, f11.out, fun _ => rfl, f15.out, f16.out, hX.out, hU.out, hE.out⟩
    · cases ho
      obtain rfl : b13 = false := hun
      obtain rfl : b14 = false := by cases b14 with
        | false => rfl
        | true => exact absurd (k14_13 rfl) Bool.false_ne_true
      replace f0 := hid f0
      replace f1 := hid f1
      replace f2 := hid f2
      replace f3 := hid f3
      replace f4 := hid f4
      replace f6 := hid f6
      replace f7 := hid f7
      replace f9 := hid f9
      replace f10 := hid f10
      replace f11 := hid f11
      replace f12 := hid f12
      replace f15 := hid f15
      replace f16 := hid f16
      replace hX := hid hX
      replace hU := hid hU
      replace hE := hid hE
      clear k8_7 k9_8 k10_9 k11_9 k12_9 k14_10 k14_13 k15_11 k16_12
      refine wpOp_step rfl (fun K hK => ?_)
      go_simp
      have ha := (Eff.refl C wq).alloc (.cells #[.slice none 0 0, .slice none 0 0] 27)
      obtain ⟨x5, x8, _⟩ := hX.out.eff ha (by omega)
      exact hK _ _ ⟨s, .pointer (some ⟨wq.heap.size, 0, none⟩), u12, u13, u30, u31, u32, u33, u34, u35, u36, u37, u38, u39, u40, u41, u42, va, vb, rfl, f0.out, f1.out, f2.out, f3.out, f4.out, f6.out, f7.out, f9.out, f10.out, f11.out, f12.out, f15.out, f16.out, ⟨x5, x8, fun _ => ⟨_, rfl, hbs, Blk.new wq [.slice none 0 0, .slice none 0 0] 27⟩⟩, hU.out.below ((Below.refl _ _).alloc (Nat.le_refl _) _), hE.out.alloc _⟩
    · cases ho
      obtain rfl : b14 = false := hun
      obtain rfl : b13 = true := (hall ⟨13, .data⟩ (by simp) rfl)
      obtain rfl : b8 = true := (hall ⟨8, .chain⟩ (by simp) rfl)
      obtain rfl : u40 = .agg #[va, vb] := f10 (hall ⟨10, .data⟩ (by simp) rfl)
      obtain ⟨x5, x8, x13⟩ := hX
      obtain ⟨Bx, rfl, hBx, bX⟩ := x13 rfl
      obtain ⟨rfl, e2, e3⟩ := x8 rfl
      obtain ⟨xa, xc, rfl, _, _⟩ := e2.shape
      obtain ⟨ya, yc, rfl, _, _⟩ := e3.shape
      replace bX : Blk wq Bx [.slice none 0 0, .slice none 0 0] 27 := bX
      have q0 := bX.cell (i := 0) rfl
      have q1 := bX.cell (i := 1) rfl
      have l0 := bX.free 0
      have l1 := bX.free 1
      have X1 := bX.set 0 (.slice xa S.length xc)
      have q3 := X1.cell (i := 1) rfl
      have l3 := X1.free 1
      have X2 := hid (X1.set 1 (.slice ya (apL S L t (partsP q s)).length yc))
      have G2 := hid ((e2.setCell_other (a := ⟨Bx, 0, none⟩) (fun e => e2.tag bX (by decide) e.symm) (.slice xa S.length xc)).setCell_other (a := ⟨Bx, 1, none⟩) (fun e => e2.tag bX (by decide) e.symm) (.slice ya (apL S L t (partsP q s)).length yc))
      have G3 := hid ((e3.setCell_other (a := ⟨Bx, 0, none⟩) (fun e => e3.tag bX (by decide) e.symm) (.slice xa S.length xc)).setCell_other (a := ⟨Bx, 1, none⟩) (fun e => e3.tag bX (by decide) e.symm) (.slice ya (apL S L t (partsP q s)).length yc))
      have HBW := (((Below.refl w2.heap.size wq).setCell (p := ⟨Bx, 0, none⟩) hBx (.slice xa S.length xc)).setCell (p := ⟨Bx, 1, none⟩) hBx (.slice ya (apL S L t (partsP q s)).length yc))
      have hCB : C < w2.heap.size := hClt
      have B3 := hid (hE.ofBelow HBW)
      have U3 := hid (hU.belowB hCB HBW)
      clear HBW
      have HX5 := hid (show b5 = true → ∃ g, u36 = .slice (some ⟨g, 0, none⟩) 5 5 ∧ w2.heap.size ≤ g ∧ Blk ((wq.setCell ⟨Bx, 0, none⟩ (.slice xa S.length xc)).setCell ⟨Bx, 1, none⟩ (.slice ya (apL S L t (partsP q s)).length yc)) g [.int .i64 0, .int .i64 5, .int .i64 116, .int .i64 117, .int .i64 240] 3 from fun e => by
        obtain ⟨g, g1, g2, g3⟩ := x5 e
        have hne : g ≠ Bx := g3.ne bX (by decide)
        exact ⟨g, g1, g2, (g3.other (a := ⟨Bx, 0, none⟩) hne _).other (a := ⟨Bx, 1, none⟩) hne _⟩)
      clear x5 x8 x13 X1 e2 e3 bX
      replace f0 := hid f0
      replace f1 := hid f1
      replace f2 := hid f2
      replace f3 := hid f3
      replace f4 := hid f4
      replace f6 := hid f6
      replace f7 := hid f7
      replace f9 := hid f9
      replace f10 := hid f10
      replace f11 := hid f11
      replace f12 := hid f12
      replace f15 := hid f15
      replace f16 := hid f16
      replace hU := hid hU
      replace hE := hid hE
      clear k8_7 k9_8 k10_9 k11_9 k12_9 k14_10 k14_13 k15_11 k16_12
      refine wpOp_step rfl (fun K hK => ?_)
      go_simp
      exact hK _ _ ⟨s, .pointer (some ⟨Bx, 0, none⟩), u12, u13, u30, u31, u32, u33, u34, u35, u36, u37, u38, .tuple #[.agg #[.slice xa S.length xc, .slice ya (apL S L t (partsP q s)).length yc], .int .i64 (apN S L t (partsP q s)), .bool (apB S L t (partsP q s))], .agg #[.slice xa S.length xc, .slice ya (apL S L t (partsP q s)).length yc], u41, u42, .slice xa S.length xc, .slice ya (apL S L t (partsP q s)).length yc, rfl, f0.out, f1.out, f2.out, f3.out, f4.out, f6.out, f7.out, f9.out, f10.out, f11.out, f12.out, f15.out, f16.out, ⟨HX5.out, fun _ => ⟨rfl, G2.out, G3.out⟩, fun _ => ⟨Bx, rfl, hBx, X2.out⟩⟩, U3.out, B3.out⟩
    · cases ho
      obtain rfl : b15 = false := hun
      obtain rfl : u41 = .int .i64 (apN S L t (partsP q s)) := f11 (hall ⟨11, .data⟩ (by simp) rfl)
      replace f0 := hid f0
      replace f1 := hid f1
      replace f2 := hid f2
      replace f3 := hid f3
      replace f4 := hid f4
      replace f6 := hid f6
      replace f7 := hid f7
      replace f9 := hid f9
      replace f10 := hid f10
      replace f11 := hid f11
      replace f12 := hid f12
      replace f15 := hid f15
      replace f16 := hid f16
      replace hX := hid hX
      replace hU := hid hU
      replace hE := hid hE
      clear k8_7 k9_8 k10_9 k11_9 k12_9 k14_10 k14_13 k15_11 k16_12
      refine wpOp_step rfl (fun K hK => ?_)
      go_simp
      exact hK _ _ ⟨s, u11, .int .i64 (apN S L t (partsP q s)), u13, u30, u31, u32, u33, u34, u35, u36, u37, u38, u39, u40, .int .i64 (apN S L t (partsP q s)), u42, va, vb, rfl, f0.out, f1.out, f2.out, f3.out, f4.out, f6.out, f7.out, f9.out, f10.out, f11.out, f12.out, fun _ => rfl, f16.out, hX.out, hU.out, hE.out⟩
    · cases ho
      obtain rfl : b16 = false := hun
      obtain rfl : u42 = .bool (apB S L t (partsP q s)) := f12 (hall ⟨12, .data⟩ (by simp) rfl)
      replace f0 := hid f0
      replace f1 := hid f1
      replace f2 := hid f2
      replace f3 := hid f3
      replace f4 := hid f4
      replace f6 := hid f6
      replace f7 := hid f7
      replace f9 := hid f9
      replace f10 := hid f10
      replace f11 := hid f11
      replace f12 := hid f12
      replace f15 := hid f15
      replace f16 := hid f16
      replace hX := hid hX
      replace hU := hid hU
      replace hE := hid hE
      clear k8_7 k9_8 k10_9 k11_9 k12_9 k14_10 k14_13 k15_11 k16_12
      refine wpOp_step rfl (fun K hK => ?_)
      go_simp
      exact hK _ _ ⟨s, u11, u12, .bool (apB S L t (partsP q s)), u30, u31, u32, u33, u34, u35, u36, u37, u38, u39, u40, u41, .bool (apB S L t (partsP q s)), va, vb, rfl, f0.out, f1.out, f2.out, f3.out, f4.out, f6.out, f7.out, f9.out, f10.out, f11.out, f12.out, f15.out, fun _ => rfl, hX.out, hU.out, hE.out⟩
end Go.Proofs.Ytphhgfgmlfdkiaa

/- The draw l11Log of the specification: the crash of a drawn disk, and a drawn write. -/
namespace Go.Proofs.Ytphhgfgmlfdkiaa
open Go.RowKit
set_option linter.unusedVariables false

theorem five {A : Array Bool} (h : A.size = 5) : ∃ b0 b1 b2 b3 b4, A = #[b0, b1, b2, b3, b4] := by
  obtain ⟨l⟩ := A
  match l, h with
  | [b0, b1, b2, b3, b4], _ => exact ⟨b0, b1, b2, b3, b4, rfl⟩

theorem Own.mono {w : World} {base base' : Nat} {e : TypeId} {k : IntKind} {v : Value} {xs : List Int} (h : Own w base e k v xs) (hb : base' ≤ base) : Own w base' e k v xs := by
  refine ⟨Nat.le_trans hb h.1, h.2.1, ?_⟩
  rcases h.2.2 with h0 | ⟨g, cap, cur, hv, hg, r⟩
  · exact .inl h0
  · exact .inr ⟨g, cap, cur, hv, Nat.le_trans hb hg, r⟩

set_option maxRecDepth 100000 in
set_option maxHeartbeats 6400000 in
theorem crash_region (zp : String) (w0 : World) (ao : Option Addr) (n cap C n0 : Nat) (zs : List Int) (t1 t2 t3 t4 t6 t7 t8 t9 t10 t11 t12 t13 t14 t15 t16 t17 t18 t19 t20 t21 t22 t23 t24 t25 t26 t27 t28 t29 t30 t31 t32 t33 t34 t35 t36 t37 t38 t39 t40 t41 t42 t43 t44 t45 t46 t47 t48 t49 t50 t51 t52 t53 t58 t59 t60 t61 t62 t63 t64 t65 t66 t67 t68 t69 t70 t71 t72 t73 t74 t75 t76 t77 t78 t79 t80 t81 t82 t83 t84 t85 s54 s55 s56 s57 : Value) (a : Option Addr) (c : Nat) (a' : Option Addr) (c' : Nat) (S : List ByteArray) (L : List (Int × ByteArray)) (Q : Exit → Act → World → Prop) (w2 : World) (h1 : S.length ≤ 1048576) (h2 : L.length ≤ 1048576) (base : Nat) (hCb : C < base) (hcode : Code w0 ao n zs) (hcur : Cur w0 ao n cap C w2)
    (hn0 : n0 ≠ C) (N : Blk w2 n0 [.slice a S.length c, .slice a' L.length c'] 27) (V : DO w2 base (.agg #[.slice a S.length c, .slice a' L.length c']) S L)
    (hQ : ∀ (ks : List Int) u54 u55 u56 u57 va vb wz, OwG wz w2.heap.size 9 1 va (bhS S L (kpOf ks)).length (encS (bhS S L (kpOf ks))) → OwG wz w2.heap.size 69 2 vb (bhL S L).length (encW (bhL S L)) → Cur w0 ao n cap C wz → Eff C w2 wz → Q .normal { tmps := #[.pointer (some ⟨C, 0, none⟩), t1, t2, t3, t4, .pointer (some ⟨n0, 0, none⟩), t6, t7, t8, t9, t10, t11, t12, t13, t14, t15, t16, t17, t18, t19, t20, t21, t22, t23, t24, t25, t26, t27, t28, t29, t30, t31, t32, t33, t34, t35, t36, t37, t38, t39, t40, t41, t42, t43, t44, t45, t46, t47, t48, t49, t50, t51, t52, t53, u54, u55, u56, u57, t58, t59, t60, t61, t62, t63, t64, t65, t66, t67, t68, t69, t70, t71, t72, t73, t74, t75, t76, t77, t78, t79, t80, t81, t82, t83, t84, t85], defers := [] } ((wz.setCell ⟨n0, 0, none⟩ va).setCell ⟨n0, 1, none⟩ vb)) :
    (Code.region 15 #[{ dst := some 54, op := Op.load 27 (Operand.tmp 5), type := 27, pos := zp, after := #[], guard := none }, { dst := some 55, op := Op.move (Operand.tmp 0), type := 60, pos := zp, after := #[], guard := none }, { dst := some 56, op := Op.call { callee := Callee.value (Operand.func 41), args := #[Operand.tmp 55, Operand.const (Value.int IntKind.i64 12)], argTypes := #[60, 3] }, type := 28, pos := zp, after := #[{ on := 1, ground := Ground.data }], guard := none }, { dst := some 57, op := Op.call { callee := Callee.value (Operand.func 85), args := #[Operand.tmp 54, Operand.tmp 56], argTypes := #[27, 28] }, type := 27, pos := zp, after := #[{ on := 0, ground := Ground.data }, { on := 2, ground := Ground.data }, { on := 2, ground := Ground.chain }], guard := none }, { dst := none, op := Op.store 27 (Operand.tmp 5) (Operand.tmp 57), type := 0, pos := zp, after := #[{ on := 3, ground := Ground.data }, { on := 3, ground := Ground.chain }, { on := 0, ground := Ground.phase }, { on := 1, ground := Ground.phase }, { on := 2, ground := Ground.phase }, { on := 3, ground := Ground.phase }], guard := none }] true).wp Try.prog Q { tmps := #[.pointer (some ⟨C, 0, none⟩), t1, t2, t3, t4, .pointer (some ⟨n0, 0, none⟩), t6, t7, t8, t9, t10, t11, t12, t13, t14, t15, t16, t17, t18, t19, t20, t21, t22, t23, t24, t25, t26, t27, t28, t29, t30, t31, t32, t33, t34, t35, t36, t37, t38, t39, t40, t41, t42, t43, t44, t45, t46, t47, t48, t49, t50, t51, t52, t53, s54, s55, s56, s57, t58, t59, t60, t61, t62, t63, t64, t65, t66, t67, t68, t69, t70, t71, t72, t73, t74, t75, t76, t77, t78, t79, t80, t81, t82, t83, t84, t85], defers := [] } w2 := by
  have HQ := hid hQ
  clear hQ
  have HCO := hid hcode
  have hClt := hcur.lt
  have HU0 := hid hcur
  clear hcode hcur
  refine wp_region_any (by kernel_rfl) ?_
  refine wpAny_inv (fun listed ac wq => ∃ ks u54 u55 u56 u57 va vb wz, ac = { tmps := #[.pointer (some ⟨C, 0, none⟩), t1, t2, t3, t4, .pointer (some ⟨n0, 0, none⟩), t6, t7, t8, t9, t10, t11, t12, t13, t14, t15, t16, t17, t18, t19, t20, t21, t22, t23, t24, t25, t26, t27, t28, t29, t30, t31, t32, t33, t34, t35, t36, t37, t38, t39, t40, t41, t42, t43, t44, t45, t46, t47, t48, t49, t50, t51, t52, t53, u54, u55, u56, u57, t58, t59, t60, t61, t62, t63, t64, t65, t66, t67, t68, t69, t70, t71, t72, t73, t74, t75, t76, t77, t78, t79, t80, t81, t82, t83, t84, t85], defers := [] } ∧ (listed.getD 0 false = true → u54 = (.agg #[.slice a S.length c, .slice a' L.length c'])) ∧ (listed.getD 1 false = true → u55 = .pointer (some ⟨C, 0, none⟩)) ∧ (listed.getD 2 false = true → ks.length ≤ 100 ∧ Own wz w2.heap.size 3 .i64 u56 ks) ∧ (listed.getD 3 false = true → u57 = .agg #[va, vb] ∧ OwG wz w2.heap.size 9 1 va (bhS S L (kpOf ks)).length (encS (bhS S L (kpOf ks))) ∧ OwG wz w2.heap.size 69 2 vb (bhL S L).length (encW (bhL S L))) ∧ (wq = if listed.getD 4 false = true then ((wz.setCell ⟨n0, 0, none⟩ va).setCell ⟨n0, 1, none⟩ vb) else wz) ∧ Cur w0 ao n cap C wz ∧ Eff C w2 wz) ?hpre ?hstep ?hend _ _ _ _ rfl (Nat.le_refl 5) (fun j oj _ hl => absurd hl (by simp [Array.getD])) ?start
  case hpre => exact pre_of (by kernel_rfl)
  case start =>
    exact ⟨[], s54, s55, s56, s57, undef, undef, _, rfl, fun h => absurd (show false = true from h) Bool.false_ne_true, fun h => absurd (show false = true from h) Bool.false_ne_true, fun h => absurd (show false = true from h) Bool.false_ne_true, fun h => absurd (show false = true from h) Bool.false_ne_true, rfl, HU0.out.below (Below.refl _ _).drew, (Eff.refl _ _).drew⟩
  case hend =>
    rintro listed ac wq hall ⟨ks, u54, u55, u56, u57, va, vb, wz, rfl, f0, f1, f2, f3, hw, hU, hE⟩
    rw [hall 4 (show 4 < 5 by decide), if_pos rfl] at hw
    subst hw
    obtain ⟨_, g1, g2⟩ := f3 (hall 3 (show 3 < 5 by decide))
    exact HQ.out ks _ _ _ _ va vb wz g1 g2 hU hE
  case hstep =>
    rintro listed ac wq i o hsz ⟨ks, u54, u55, u56, u57, va, vb, wz, rfl, f0, f1, f2, f3, hw, hU, hE⟩ ho hall hun hcl
    obtain ⟨b0, b1, b2, b3, b4, rfl⟩ := five hsz
    have hin : i < 5 := (Array.getElem?_eq_some_iff.1 ho).1
    have k4 : ∀ j, j < 4 → b4 = true → (#[b0, b1, b2, b3, b4] : Array Bool).getD j false = true := fun j hj h => hcl 4 _ rfl h ⟨j, .phase⟩ (by
      obtain rfl | rfl | rfl | rfl : j = 0 ∨ j = 1 ∨ j = 2 ∨ j = 3 := by omega
      all_goals simp) rfl
    have k3 : b3 = true → b2 = true := fun h => hcl 3 _ rfl h ⟨2, .data⟩ (by simp) rfl
    clear hcl
    obtain rfl | rfl | rfl | rfl | rfl : i = 0 ∨ i = 1 ∨ i = 2 ∨ i = 3 ∨ i = 4 := by omega
    · cases ho
      have hun' : (#[b0, b1, b2, b3, b4] : Array Bool).getD 0 false = false := hun
      obtain rfl : b4 = false := by cases b4 with
        | false => rfl
        | true => exact absurd (k4 0 (by decide) rfl) (by rw [hun']; exact Bool.false_ne_true)
      clear hun'
      obtain rfl : b0 = false := hun
      obtain rfl : wq = wz := hw
      have N1 := N.eff hE hn0
      have c0 := N1.cell (i := 0) rfl
      have c1 := N1.cell (i := 1) rfl
      have V1 := hid (V.eff hE hCb)
      have hbs := hE.size
      replace f0 := hid f0
      replace f1 := hid f1
      replace f2 := hid f2
      replace f3 := hid f3
      replace hU := hid hU
      replace hE := hid hE
      clear k3 k4
      refine wpOp_step rfl (fun K hK => ?_)
      go_simp
      exact hK _ _ ⟨ks, (.agg #[.slice a S.length c, .slice a' L.length c']), u55, u56, u57, va, vb, wq, rfl, fun _ => rfl, f1.out, f2.out, f3.out, rfl, hU.out, hE.out⟩
    · cases ho
      have hun' : (#[b0, b1, b2, b3, b4] : Array Bool).getD 1 false = false := hun
      obtain rfl : b4 = false := by cases b4 with
        | false => rfl
        | true => exact absurd (k4 1 (by decide) rfl) (by rw [hun']; exact Bool.false_ne_true)
      clear hun'
      obtain rfl : b1 = false := hun
      obtain rfl : wq = wz := hw
      have N1 := N.eff hE hn0
      have c0 := N1.cell (i := 0) rfl
      have c1 := N1.cell (i := 1) rfl
      have V1 := hid (V.eff hE hCb)
      have hbs := hE.size
      replace f0 := hid f0
      replace f1 := hid f1
      replace f2 := hid f2
      replace f3 := hid f3
      replace hU := hid hU
      replace hE := hid hE
      clear k3 k4
      refine wpOp_step rfl (fun K hK => ?_)
      go_simp
      exact hK _ _ ⟨ks, u54, .pointer (some ⟨C, 0, none⟩), u56, u57, va, vb, wq, rfl, f0.out, fun _ => rfl, f2.out, f3.out, rfl, hU.out, hE.out⟩
    · cases ho
      have hun' : (#[b0, b1, b2, b3, b4] : Array Bool).getD 2 false = false := hun
      obtain rfl : b4 = false := by cases b4 with
        | false => rfl
        | true => exact absurd (k4 2 (by decide) rfl) (by rw [hun']; exact Bool.false_ne_true)
      clear hun'
      obtain rfl : b2 = false := hun
      obtain rfl : wq = wz := hw
      have N1 := N.eff hE hn0
      have c0 := N1.cell (i := 0) rfl
      have c1 := N1.cell (i := 1) rfl
      have V1 := hid (V.eff hE hCb)
      have hbs := hE.size
      obtain rfl : b3 = false := by cases b3 with
        | false => rfl
        | true => exact absurd (k3 rfl) Bool.false_ne_true
      obtain rfl : u55 = .pointer (some ⟨C, 0, none⟩) := f1 (hall ⟨1, .data⟩ (by simp) rfl)
      replace f0 := hid f0
      replace f1 := hid f1
      replace f2 := hid f2
      replace f3 := hid f3
      replace hU := hid hU
      replace hE := hid hE
      clear k3 k4
      refine wpOp_step rfl (fun K hK => ?_)
      go_simp
      refine (draw_keep w0 ao n cap C zs 12 wq (by decide) HCO.out hU.out).mono ?_
      rintro e w3 ⟨v3, rfl, ks3, hk3, ho3, hu3, he3⟩
      exact hK _ _ ⟨ks3, u54, .pointer (some ⟨C, 0, none⟩), v3, u57, va, vb, w3, rfl, f0.out, f1.out, fun _ => ⟨hk3, Own.mono ho3 hbs⟩, fun h => absurd (show false = true from h) Bool.false_ne_true, rfl, hu3, hE.out.trans he3⟩
    · cases ho
      have hun' : (#[b0, b1, b2, b3, b4] : Array Bool).getD 3 false = false := hun
      obtain rfl : b4 = false := by cases b4 with
        | false => rfl
        | true => exact absurd (k4 3 (by decide) rfl) (by rw [hun']; exact Bool.false_ne_true)
      clear hun'
      obtain rfl : b3 = false := hun
      obtain rfl : wq = wz := hw
      have N1 := N.eff hE hn0
      have c0 := N1.cell (i := 0) rfl
      have c1 := N1.cell (i := 1) rfl
      have V1 := hid (V.eff hE hCb)
      have hbs := hE.size
      obtain rfl : u54 = (.agg #[.slice a S.length c, .slice a' L.length c']) := f0 (hall ⟨0, .data⟩ (by simp) rfl)
      obtain ⟨hk, ho2⟩ := f2 (hall ⟨2, .data⟩ (by simp) rfl)
      obtain ⟨ko, kc, rfl, kv⟩ := ho2.view
      have KV := hid kv
      clear kv
      replace f0 := hid f0
      replace f1 := hid f1
      replace f2 := hid f2
      replace f3 := hid f3
      replace hU := hid hU
      replace hE := hid hE
      clear k3 k4
      refine wpOp_step rfl (fun K hK => ?_)
      go_simp
      refine (spec_crash _ S L ko kc ks wq h1 h2 V1.out.dp (by omega) KV.out).mono ?_
      rintro e w3 ⟨v3, rfl, ⟨va3, vb3, rfl, ho1, ho22⟩, hb3⟩
      exact hK _ _ ⟨ks, (.agg #[.slice a S.length c, .slice a' L.length c']), u55, .slice ko ks.length kc, .agg #[va3, vb3], va3, vb3, w3, rfl, f0.out, f1.out, fun e => ⟨(f2.out e).1, (f2.out e).2.below hb3⟩, fun _ => ⟨rfl, ho1.mono hbs, ho22.mono hbs⟩, rfl, hU.out.below hb3, hE.out.trans ((Eff.refl C wq).ofBelow hb3)⟩
    · cases ho
      have hun' : (#[b0, b1, b2, b3, b4] : Array Bool).getD 4 false = false := hun
      clear hun'
      obtain rfl : b4 = false := hun
      obtain rfl : wq = wz := hw
      have N1 := N.eff hE hn0
      obtain ⟨rfl, g1, g2⟩ := f3 (hall ⟨3, .data⟩ (by simp) rfl)
      obtain ⟨xa, xc, rfl, _, _⟩ := g1.shape
      obtain ⟨ya, yc, rfl, _, _⟩ := g2.shape
      have q0 := N1.cell (i := 0) rfl
      have q1 := N1.cell (i := 1) rfl
      have l0 := N1.free 0
      have l1 := N1.free 1
      have X1 := N1.set 0 (.slice xa (bhS S L (kpOf ks)).length xc)
      have q3 := X1.cell (i := 1) rfl
      have l3 := X1.free 1
      clear g1 g2 N1 X1
      replace f0 := hid f0
      replace f1 := hid f1
      replace f2 := hid f2
      replace f3 := hid f3
      replace hU := hid hU
      replace hE := hid hE
      clear k3 k4
      refine wpOp_step rfl (fun K hK => ?_)
      go_simp
      exact hK _ _ ⟨ks, u54, u55, u56, _, _, _, wq, rfl, f0.out, f1.out, f2.out, f3.out, rfl, hU.out, hE.out⟩

/-- What stands in memory while the statement is done. -/
def Xw (m0 : Nat) (S : List ByteArray) (L : List (Int × ByteArray)) (x : Int) (s : ByteArray) (b10 b14 b15 : Bool) (u14 u71 va vb : Value) (wq : World) : Prop :=
  (b10 = true → u71 = .tuple #[.agg #[va, vb], .bool (wrB S L x s)] ∧ OwG wq m0 9 1 va S.length (encS S) ∧ OwG wq m0 69 2 vb (wrL S L x s).length (encW (wrL S L x s))) ∧ (b14 = true → ∃ Bx, u14 = .pointer (some ⟨Bx, 0, none⟩) ∧ m0 ≤ Bx ∧ Blk wq Bx (if b15 = true then [va, vb] else [.slice none 0 0, .slice none 0 0]) 27)
theorem Xw.eff {C m0 : Nat} {S : List ByteArray} {L : List (Int × ByteArray)} {x : Int} {s : ByteArray} {b10 b14 b15 : Bool} {u14 u71 va vb : Value} {w w' : World} (h : Xw m0 S L x s b10 b14 b15 u14 u71 va vb w) (he : Eff C w w') (hC : C < m0) : Xw m0 S L x s b10 b14 b15 u14 u71 va vb w' := by
  obtain ⟨h2, h3⟩ := h
  refine ⟨fun e => ?_, fun e => ?_⟩
  · obtain ⟨e1, e2, e3⟩ := h2 e
    exact ⟨e1, e2.eff he hC, e3.eff he hC⟩
  · obtain ⟨Bx, e1, e2, e3⟩ := h3 e
    exact ⟨Bx, e1, e2, e3.eff he (by omega)⟩

set_option maxRecDepth 100000 in
set_option maxHeartbeats 6400000 in
theorem wr_region (zp : String) (w0 : World) (ao : Option Addr) (n cap C n0 : Nat) (zs : List Int) (t1 t2 t3 t4 t6 t7 t8 t9 t10 t11 t12 t13 t16 t17 t18 t19 t20 t21 t22 t23 t24 t25 t26 t27 t28 t29 t30 t31 t32 t33 t34 t35 t36 t37 t38 t39 t40 t41 t42 t43 t44 t45 t46 t47 t48 t49 t50 t51 t52 t53 t54 t55 t56 t57 t58 t59 t74 t75 t76 t77 t78 t79 t80 t81 t82 t83 t84 t85 s14 s15 s60 s61 s62 s63 s64 s65 s66 s67 s68 s69 s70 s71 s72 s73 : Value) (a : Option Addr) (c : Nat) (a' : Option Addr) (c' : Nat) (S : List ByteArray) (L : List (Int × ByteArray)) (Q : Exit → Act → World → Prop) (w2 : World) (h1 : S.length ≤ 1048576) (h2 : L.length ≤ 1048576) (base : Nat) (hCb : C < base) (hcode : Code w0 ao n zs) (hcur : Cur w0 ao n cap C w2)
    (hn0 : n0 ≠ C) (N : Blk w2 n0 [.slice a S.length c, .slice a' L.length c'] 27) (V : DO w2 base (.agg #[.slice a S.length c, .slice a' L.length c']) S L)
    (hQ : ∀ (x : Int) (s : ByteArray) u15 u60 u61 u62 u63 u64 u65 u66 u67 u68 u69 u70 u71 u72 u73 Bx va vb wq, w2.heap.size ≤ Bx → Blk wq Bx [va, vb] 27 → OwG wq w2.heap.size 9 1 va S.length (encS S) → OwG wq w2.heap.size 69 2 vb (wrL S L x s).length (encW (wrL S L x s)) → Cur w0 ao n cap C wq → Eff C w2 wq → Q .normal { tmps := #[.pointer (some ⟨C, 0, none⟩), t1, t2, t3, t4, .pointer (some ⟨n0, 0, none⟩), t6, t7, t8, t9, t10, t11, t12, t13, .pointer (some ⟨Bx, 0, none⟩), u15, t16, t17, t18, t19, t20, t21, t22, t23, t24, t25, t26, t27, t28, t29, t30, t31, t32, t33, t34, t35, t36, t37, t38, t39, t40, t41, t42, t43, t44, t45, t46, t47, t48, t49, t50, t51, t52, t53, t54, t55, t56, t57, t58, t59, u60, u61, u62, u63, u64, u65, u66, u67, u68, u69, u70, u71, u72, u73, t74, t75, t76, t77, t78, t79, t80, t81, t82, t83, t84, t85], defers := [] } wq) :
    (Code.region 17 #[{ dst := some 61, op := Op.load 27 (Operand.tmp 5), type := 27, pos := zp, after := #[], guard := none }, { dst := some 62, op := Op.move (Operand.tmp 0), type := 60, pos := zp, after := #[], guard := none }, { dst := some 63, op := Op.fieldAddr 27 (Operand.tmp 5) 0, type := 0, pos := zp, after := #[], guard := none }, { dst := some 64, op := Op.load 24 (Operand.tmp 63), type := 24, pos := zp, after := #[{ on := 2, ground := Ground.data }], guard := none }, { dst := some 65, op := Op.call { callee := Callee.builtin Builtin.len, args := #[Operand.tmp 64], argTypes := #[24] }, type := 3, pos := zp, after := #[{ on := 3, ground := Ground.data }], guard := none }, { dst := some 66, op := Op.call { callee := Callee.value (Operand.func 38), args := #[Operand.tmp 62, Operand.tmp 65], argTypes := #[60, 3] }, type := 3, pos := zp, after := #[{ on := 1, ground := Ground.data }, { on := 4, ground := Ground.data }], guard := none }, { dst := some 67, op := Op.move (Operand.tmp 0), type := 60, pos := zp, after := #[], guard := none }, { dst := some 68, op := Op.move (Operand.tmp 0), type := 60, pos := zp, after := #[], guard := none }, { dst := some 69, op := Op.call { callee := Callee.value (Operand.func 38), args := #[Operand.tmp 68, Operand.const (Value.int IntKind.i64 20)], argTypes := #[60, 3] }, type := 3, pos := zp, after := #[{ on := 7, ground := Ground.data }, { on := 5, ground := Ground.chain }], guard := none }, { dst := some 70, op := Op.call { callee := Callee.value (Operand.func 39), args := #[Operand.tmp 67, Operand.tmp 69], argTypes := #[60, 3] }, type := 9, pos := zp, after := #[{ on := 6, ground := Ground.data }, { on := 8, ground := Ground.data }, { on := 8, ground := Ground.chain }], guard := none }, { dst := some 71, op := Op.call { callee := Callee.value (Operand.func 86), args := #[Operand.tmp 61, Operand.tmp 66, Operand.tmp 70], argTypes := #[27, 3, 9] }, type := 62, pos := zp, after := #[{ on := 0, ground := Ground.data }, { on := 5, ground := Ground.data }, { on := 9, ground := Ground.data }, { on := 9, ground := Ground.chain }], guard := none }, { dst := some 60, op := Op.move (Operand.tmp 71), type := 62, pos := zp, after := #[{ on := 10, ground := Ground.data }], guard := none }, { dst := some 72, op := Op.extract (Operand.tmp 60) 0, type := 27, pos := zp, after := #[{ on := 11, ground := Ground.data }], guard := none }, { dst := some 73, op := Op.extract (Operand.tmp 60) 1, type := 4, pos := zp, after := #[{ on := 11, ground := Ground.data }, { on := 15, ground := Ground.gcOnly Departure.lateStores }], guard := none }, { dst := some 14, op := Op.alloc 27, type := 0, pos := zp, after := #[], guard := none }, { dst := none, op := Op.store 27 (Operand.tmp 14) (Operand.tmp 72), type := 0, pos := zp, after := #[{ on := 14, ground := Ground.data }, { on := 12, ground := Ground.data }, { on := 10, ground := Ground.chain }, { on := 0, ground := Ground.phase }, { on := 1, ground := Ground.phase }, { on := 2, ground := Ground.phase }, { on := 3, ground := Ground.phase }, { on := 4, ground := Ground.phase }, { on := 5, ground := Ground.phase }, { on := 6, ground := Ground.phase }, { on := 7, ground := Ground.phase }, { on := 8, ground := Ground.phase }, { on := 9, ground := Ground.phase }, { on := 10, ground := Ground.phase }, { on := 11, ground := Ground.phase }, { on := 12, ground := Ground.phase }, { on := 13, ground := Ground.textOnly Departure.lateStores }, { on := 14, ground := Ground.phase }], guard := none }, { dst := some 15, op := Op.assign (Operand.tmp 73), type := 4, pos := zp, after := #[{ on := 13, ground := Ground.data }, { on := 15, ground := Ground.chain }, { on := 0, ground := Ground.phase }, { on := 1, ground := Ground.phase }, { on := 2, ground := Ground.phase }, { on := 3, ground := Ground.phase }, { on := 4, ground := Ground.phase }, { on := 5, ground := Ground.phase }, { on := 6, ground := Ground.phase }, { on := 7, ground := Ground.phase }, { on := 8, ground := Ground.phase }, { on := 9, ground := Ground.phase }, { on := 10, ground := Ground.phase }, { on := 11, ground := Ground.phase }, { on := 12, ground := Ground.phase }, { on := 13, ground := Ground.phase }, { on := 14, ground := Ground.phase }, { on := 15, ground := Ground.phase }], guard := none }] true).wp Try.prog Q { tmps := #[.pointer (some ⟨C, 0, none⟩), t1, t2, t3, t4, .pointer (some ⟨n0, 0, none⟩), t6, t7, t8, t9, t10, t11, t12, t13, s14, s15, t16, t17, t18, t19, t20, t21, t22, t23, t24, t25, t26, t27, t28, t29, t30, t31, t32, t33, t34, t35, t36, t37, t38, t39, t40, t41, t42, t43, t44, t45, t46, t47, t48, t49, t50, t51, t52, t53, t54, t55, t56, t57, t58, t59, s60, s61, s62, s63, s64, s65, s66, s67, s68, s69, s70, s71, s72, s73, t74, t75, t76, t77, t78, t79, t80, t81, t82, t83, t84, t85], defers := [] } w2 := by
  have HQ := hid hQ
  clear hQ
  have HCO := hid hcode
  have hClt := hcur.lt
  have HU0 := hid hcur
  clear hcode hcur
  refine wp_region_any (by kernel_rfl) ?_
  refine wpAny_inv (fun listed ac wq => ∃ x s u14 u15 u60 u61 u62 u63 u64 u65 u66 u67 u68 u69 u70 u71 u72 u73 va vb, ac = { tmps := #[.pointer (some ⟨C, 0, none⟩), t1, t2, t3, t4, .pointer (some ⟨n0, 0, none⟩), t6, t7, t8, t9, t10, t11, t12, t13, u14, u15, t16, t17, t18, t19, t20, t21, t22, t23, t24, t25, t26, t27, t28, t29, t30, t31, t32, t33, t34, t35, t36, t37, t38, t39, t40, t41, t42, t43, t44, t45, t46, t47, t48, t49, t50, t51, t52, t53, t54, t55, t56, t57, t58, t59, u60, u61, u62, u63, u64, u65, u66, u67, u68, u69, u70, u71, u72, u73, t74, t75, t76, t77, t78, t79, t80, t81, t82, t83, t84, t85], defers := [] } ∧ (listed.getD 0 false = true → u61 = (.agg #[.slice a S.length c, .slice a' L.length c'])) ∧ (listed.getD 1 false = true → u62 = .pointer (some ⟨C, 0, none⟩)) ∧ (listed.getD 2 false = true → u63 = .pointer (some ⟨n0, 0, none⟩)) ∧ (listed.getD 3 false = true → u64 = .slice a S.length c) ∧ (listed.getD 4 false = true → u65 = .int .i64 (S.length : Int)) ∧ (listed.getD 5 false = true → u66 = .int .i64 x) ∧ (listed.getD 6 false = true → u67 = .pointer (some ⟨C, 0, none⟩)) ∧ (listed.getD 7 false = true → u68 = .pointer (some ⟨C, 0, none⟩)) ∧ (listed.getD 8 false = true → ∃ m : Nat, u69 = .int .i64 m ∧ m ≤ 20) ∧ (listed.getD 9 false = true → u70 = .string s) ∧ (listed.getD 11 false = true → u60 = .tuple #[.agg #[va, vb], .bool (wrB S L x s)]) ∧ (listed.getD 12 false = true → u72 = .agg #[va, vb]) ∧ (listed.getD 13 false = true → u73 = .bool (wrB S L x s)) ∧ Xw w2.heap.size S L x s (listed.getD 10 false) (listed.getD 14 false) (listed.getD 15 false) u14 u71 va vb wq ∧ Cur w0 ao n cap C wq ∧ Eff C w2 wq) ?hpre ?hstep ?hend _ _ _ _ rfl (Nat.le_refl 17) (fun j oj _ hl => absurd hl (by simp [Array.getD])) ?start
  case hpre => exact pre_of (by kernel_rfl)
  case start =>
    exact ⟨0, ByteArray.empty, s14, s15, s60, s61, s62, s63, s64, s65, s66, s67, s68, s69, s70, s71, s72, s73, undef, undef, rfl, fun h => absurd (show false = true from h) Bool.false_ne_true, fun h => absurd (show false = true from h) Bool.false_ne_true, fun h => absurd (show false = true from h) Bool.false_ne_true, fun h => absurd (show false = true from h) Bool.false_ne_true, fun h => absurd (show false = true from h) Bool.false_ne_true, fun h => absurd (show false = true from h) Bool.false_ne_true, fun h => absurd (show false = true from h) Bool.false_ne_true, fun h => absurd (show false = true from h) Bool.false_ne_true, fun h => absurd (show false = true from h) Bool.false_ne_true, fun h => absurd (show false = true from h) Bool.false_ne_true, fun h => absurd (show false = true from h) Bool.false_ne_true, fun h => absurd (show false = true from h) Bool.false_ne_true, fun h => absurd (show false = true from h) Bool.false_ne_true, ⟨fun h => absurd (show false = true from h) Bool.false_ne_true, fun h => absurd (show false = true from h) Bool.false_ne_true⟩, HU0.out.below (Below.refl _ _).drew, (Eff.refl _ _).drew⟩
  case hend =>
    rintro listed ac wq hall ⟨x, s, u14, u15, u60, u61, u62, u63, u64, u65, u66, u67, u68, u69, u70, u71, u72, u73, va, vb, rfl, f0, f1, f2, f3, f4, f5, f6, f7, f8, f9, f11, f12, f13, hX, hU, hE⟩
    rw [hall 10 (show 10 < 17 by decide)] at hX
    rw [hall 14 (show 14 < 17 by decide)] at hX
    rw [hall 15 (show 15 < 17 by decide)] at hX
    obtain ⟨x10, x14⟩ := hX
    obtain ⟨e1, e2, e3⟩ := x10 rfl
    obtain ⟨Bx, rfl, e4, e5⟩ := x14 rfl
    exact HQ.out x s _ _ _ _ _ _ _ _ _ _ _ _ _ _ _ Bx va vb wq e4 e5 e2 e3 hU hE
  case hstep =>
    rintro listed ac wq i o hsz ⟨x, s, u14, u15, u60, u61, u62, u63, u64, u65, u66, u67, u68, u69, u70, u71, u72, u73, va, vb, rfl, f0, f1, f2, f3, f4, f5, f6, f7, f8, f9, f11, f12, f13, hX, hU, hE⟩ ho hall hun hcl
    obtain ⟨b0, b1, b2, b3, b4, b5, b6, b7, b8, b9, b10, b11, b12, b13, b14, b15, b16, rfl⟩ := seventeen hsz
    have hin : i < 17 := (Array.getElem?_eq_some_iff.1 ho).1
    have N1 := N.eff hE hn0
    have c0 := N1.cell (i := 0) rfl
    have c1 := N1.cell (i := 1) rfl
    have V1 := hid (V.eff hE hCb)
    have hbs := hE.size
    have k10_9 : b10 = true → b9 = true := fun h => hcl 10 _ rfl h ⟨9, .data⟩ (by simp) rfl
    have k10_5 : b10 = true → b5 = true := fun h => hcl 10 _ rfl h ⟨5, .data⟩ (by simp) rfl
    have k11_10 : b11 = true → b10 = true := fun h => hcl 11 _ rfl h ⟨10, .data⟩ (by simp) rfl
    have k12_11 : b12 = true → b11 = true := fun h => hcl 12 _ rfl h ⟨11, .data⟩ (by simp) rfl
    have k13_11 : b13 = true → b11 = true := fun h => hcl 13 _ rfl h ⟨11, .data⟩ (by simp) rfl
    have k15_12 : b15 = true → b12 = true := fun h => hcl 15 _ rfl h ⟨12, .data⟩ (by simp) rfl
    have k15_14 : b15 = true → b14 = true := fun h => hcl 15 _ rfl h ⟨14, .data⟩ (by simp) rfl
    clear hcl
    obtain rfl | rfl | rfl | rfl | rfl | rfl | rfl | rfl | rfl | rfl | rfl | rfl | rfl | rfl | rfl | rfl | rfl : i = 0 ∨ i = 1 ∨ i = 2 ∨ i = 3 ∨ i = 4 ∨ i = 5 ∨ i = 6 ∨ i = 7 ∨ i = 8 ∨ i = 9 ∨ i = 10 ∨ i = 11 ∨ i = 12 ∨ i = 13 ∨ i = 14 ∨ i = 15 ∨ i = 16 := by omega
    · cases ho
      obtain rfl : b0 = false := hun
      replace f0 := hid f0
      replace f1 := hid f1
      replace f2 := hid f2
      replace f3 := hid f3
      replace f4 := hid f4
      replace f5 := hid f5
      replace f6 := hid f6
      replace f7 := hid f7
      replace f8 := hid f8
      replace f9 := hid f9
      replace f11 := hid f11
      replace f12 := hid f12
      replace f13 := hid f13
      replace hX := hid hX
      replace hU := hid hU
      replace hE := hid hE
      clear k10_9 k10_5 k11_10 k12_11 k13_11 k15_12 k15_14
      refine wpOp_step rfl (fun K hK => ?_)
      go_simp
      exact hK _ _ ⟨x, s, u14, u15, u60, (.agg #[.slice a S.length c, .slice a' L.length c']), u62, u63, u64, u65, u66, u67, u68, u69, u70, u71, u72, u73, va, vb, rfl, fun _ => rfl, f1.out, f2.out, f3.out, f4.out, f5.out, f6.out, f7.out, f8.out, f9.out, f11.out, f12.out, f13.out, hX.out, hU.out, hE.out⟩
    · cases ho
      obtain rfl : b1 = false := hun
      replace f0 := hid f0
      replace f1 := hid f1
      replace f2 := hid f2
      replace f3 := hid f3
      replace f4 := hid f4
      replace f5 := hid f5
      replace f6 := hid f6
      replace f7 := hid f7
      replace f8 := hid f8
      replace f9 := hid f9
      replace f11 := hid f11
      replace f12 := hid f12
      replace f13 := hid f13
      replace hX := hid hX
      replace hU := hid hU
      replace hE := hid hE
      clear k10_9 k10_5 k11_10 k12_11 k13_11 k15_12 k15_14
      refine wpOp_step rfl (fun K hK => ?_)
      go_simp
      exact hK _ _ ⟨x, s, u14, u15, u60, u61, .pointer (some ⟨C, 0, none⟩), u63, u64, u65, u66, u67, u68, u69, u70, u71, u72, u73, va, vb, rfl, f0.out, fun _ => rfl, f2.out, f3.out, f4.out, f5.out, f6.out, f7.out, f8.out, f9.out, f11.out, f12.out, f13.out, hX.out, hU.out, hE.out⟩
    · cases ho
      obtain rfl : b2 = false := hun
      replace f0 := hid f0
      replace f1 := hid f1
      replace f2 := hid f2
      replace f3 := hid f3
      replace f4 := hid f4
      replace f5 := hid f5
      replace f6 := hid f6
      replace f7 := hid f7
      replace f8 := hid f8
      replace f9 := hid f9
      replace f11 := hid f11
      replace f12 := hid f12
      replace f13 := hid f13
      replace hX := hid hX
      replace hU := hid hU
      replace hE := hid hE
      clear k10_9 k10_5 k11_10 k12_11 k13_11 k15_12 k15_14
      refine wpOp_step rfl (fun K hK => ?_)
      go_simp
      exact hK _ _ ⟨x, s, u14, u15, u60, u61, u62, .pointer (some ⟨n0, 0, none⟩), u64, u65, u66, u67, u68, u69, u70, u71, u72, u73, va, vb, rfl, f0.out, f1.out, fun _ => rfl, f3.out, f4.out, f5.out, f6.out, f7.out, f8.out, f9.out, f11.out, f12.out, f13.out, hX.out, hU.out, hE.out⟩
    · cases ho
      obtain rfl : b3 = false := hun
      obtain rfl : u63 = .pointer (some ⟨n0, 0, none⟩) := f2 (hall ⟨2, .data⟩ (by simp) rfl)
      replace f0 := hid f0
      replace f1 := hid f1
      replace f2 := hid f2
      replace f3 := hid f3
      replace f4 := hid f4
      replace f5 := hid f5
      replace f6 := hid f6
      replace f7 := hid f7
      replace f8 := hid f8
      replace f9 := hid f9
      replace f11 := hid f11
      replace f12 := hid f12
      replace f13 := hid f13
      replace hX := hid hX
      replace hU := hid hU
      replace hE := hid hE
      clear k10_9 k10_5 k11_10 k12_11 k13_11 k15_12 k15_14
      refine wpOp_step rfl (fun K hK => ?_)
      go_simp
      exact hK _ _ ⟨x, s, u14, u15, u60, u61, u62, .pointer (some ⟨n0, 0, none⟩), .slice a S.length c, u65, u66, u67, u68, u69, u70, u71, u72, u73, va, vb, rfl, f0.out, f1.out, f2.out, fun _ => rfl, f4.out, f5.out, f6.out, f7.out, f8.out, f9.out, f11.out, f12.out, f13.out, hX.out, hU.out, hE.out⟩
    · cases ho
      obtain rfl : b4 = false := hun
      obtain rfl : u64 = .slice a S.length c := f3 (hall ⟨3, .data⟩ (by simp) rfl)
      replace f0 := hid f0
      replace f1 := hid f1
      replace f2 := hid f2
      replace f3 := hid f3
      replace f4 := hid f4
      replace f5 := hid f5
      replace f6 := hid f6
      replace f7 := hid f7
      replace f8 := hid f8
      replace f9 := hid f9
      replace f11 := hid f11
      replace f12 := hid f12
      replace f13 := hid f13
      replace hX := hid hX
      replace hU := hid hU
      replace hE := hid hE
      clear k10_9 k10_5 k11_10 k12_11 k13_11 k15_12 k15_14
      refine wpOp_step rfl (fun K hK => ?_)
      go_simp
      exact hK _ _ ⟨x, s, u14, u15, u60, u61, u62, u63, .slice a S.length c, .int .i64 (S.length : Int), u66, u67, u68, u69, u70, u71, u72, u73, va, vb, rfl, f0.out, f1.out, f2.out, f3.out, fun _ => rfl, f5.out, f6.out, f7.out, f8.out, f9.out, f11.out, f12.out, f13.out, hX.out, hU.out, hE.out⟩
    · cases ho
      obtain rfl : b5 = false := hun
      obtain rfl : b10 = false := by cases b10 with
        | false => rfl
        | true => exact absurd (k10_5 rfl) Bool.false_ne_true
      obtain rfl : b11 = false := by cases b11 with
        | false => rfl
        | true => exact absurd (k11_10 rfl) Bool.false_ne_true
      obtain rfl : b13 = false := by cases b13 with
        | false => rfl
        | true => exact absurd (k13_11 rfl) Bool.false_ne_true
      obtain rfl : u62 = .pointer (some ⟨C, 0, none⟩) := f1 (hall ⟨1, .data⟩ (by simp) rfl)
      obtain rfl : u65 = .int .i64 (S.length : Int) := f4 (hall ⟨4, .data⟩ (by simp) rfl)
      replace f0 := hid f0
      replace f1 := hid f1
      replace f2 := hid f2
      replace f3 := hid f3
      replace f4 := hid f4
      replace f5 := hid f5
      replace f6 := hid f6
      replace f7 := hid f7
      replace f8 := hid f8
      replace f9 := hid f9
      replace f11 := hid f11
      replace f12 := hid f12
      replace f13 := hid f13
      replace hX := hid hX
      replace hU := hid hU
      replace hE := hid hE
      clear k10_9 k10_5 k11_10 k12_11 k13_11 k15_12 k15_14
      refine wpOp_step rfl (fun K hK => ?_)
      go_simp
      refine (below_any w0 ao n cap C zs _ wq HCO.out hU.out).mono ?_
      rintro e w3 ⟨x3, rfl, _, hu3, he3⟩
      obtain ⟨_, x14⟩ := hX.out.eff he3 (by omega)
      exact hK _ _ ⟨x3, s, u14, u15, u60, u61, .pointer (some ⟨C, 0, none⟩), u63, u64, .int .i64 (S.length : Int), .int .i64 x3, u67, u68, u69, u70, u71, u72, u73, va, vb, rfl, f0.out, f1.out, f2.out, f3.out, f4.out, fun _ => rfl, f6.out, f7.out, f8.out, f9.out, fun h => absurd (show false = true from h) Bool.false_ne_true, f12.out, fun h => absurd (show false = true from h) Bool.false_ne_true, ⟨fun h => absurd (show false = true from h) Bool.false_ne_true, x14⟩, hu3, hE.out.trans he3⟩
    · cases ho
      obtain rfl : b6 = false := hun
      replace f0 := hid f0
      replace f1 := hid f1
      replace f2 := hid f2
      replace f3 := hid f3
      replace f4 := hid f4
      replace f5 := hid f5
      replace f6 := hid f6
      replace f7 := hid f7
      replace f8 := hid f8
      replace f9 := hid f9
      replace f11 := hid f11
      replace f12 := hid f12
      replace f13 := hid f13
      replace hX := hid hX
      replace hU := hid hU
      replace hE := hid hE
      clear k10_9 k10_5 k11_10 k12_11 k13_11 k15_12 k15_14
      refine wpOp_step rfl (fun K hK => ?_)
      go_simp
      exact hK _ _ ⟨x, s, u14, u15, u60, u61, u62, u63, u64, u65, u66, .pointer (some ⟨C, 0, none⟩), u68, u69, u70, u71, u72, u73, va, vb, rfl, f0.out, f1.out, f2.out, f3.out, f4.out, f5.out, fun _ => rfl, f7.out, f8.out, f9.out, f11.out, f12.out, f13.out, hX.out, hU.out, hE.out⟩
    · cases ho
      obtain rfl : b7 = false := hun
      replace f0 := hid f0
      replace f1 := hid f1
      replace f2 := hid f2
      replace f3 := hid f3
      replace f4 := hid f4
      replace f5 := hid f5
      replace f6 := hid f6
      replace f7 := hid f7
      replace f8 := hid f8
      replace f9 := hid f9
      replace f11 := hid f11
      replace f12 := hid f12
      replace f13 := hid f13
      replace hX := hid hX
      replace hU := hid hU
      replace hE := hid hE
      clear k10_9 k10_5 k11_10 k12_11 k13_11 k15_12 k15_14
      refine wpOp_step rfl (fun K hK => ?_)
      go_simp
      exact hK _ _ ⟨x, s, u14, u15, u60, u61, u62, u63, u64, u65, u66, u67, .pointer (some ⟨C, 0, none⟩), u69, u70, u71, u72, u73, va, vb, rfl, f0.out, f1.out, f2.out, f3.out, f4.out, f5.out, f6.out, fun _ => rfl, f8.out, f9.out, f11.out, f12.out, f13.out, hX.out, hU.out, hE.out⟩
    · cases ho
      obtain rfl : b8 = false := hun
      obtain rfl : u68 = .pointer (some ⟨C, 0, none⟩) := f7 (hall ⟨7, .data⟩ (by simp) rfl)
      replace f0 := hid f0
      replace f1 := hid f1
      replace f2 := hid f2
      replace f3 := hid f3
      replace f4 := hid f4
      replace f5 := hid f5
      replace f6 := hid f6
      replace f7 := hid f7
      replace f8 := hid f8
      replace f9 := hid f9
      replace f11 := hid f11
      replace f12 := hid f12
      replace f13 := hid f13
      replace hX := hid hX
      replace hU := hid hU
      replace hE := hid hE
      clear k10_9 k10_5 k11_10 k12_11 k13_11 k15_12 k15_14
      refine wpOp_step rfl (fun K hK => ?_)
      go_simp
      refine (below_any w0 ao n cap C zs _ wq HCO.out hU.out).mono ?_
      rintro e w3 ⟨y, rfl, hy, hu3, he3⟩
      obtain ⟨m, rfl⟩ : ∃ m : Nat, y = m := ⟨y.toNat, by omega⟩
      exact hK _ _ ⟨x, s, u14, u15, u60, u61, u62, u63, u64, u65, u66, u67, .pointer (some ⟨C, 0, none⟩), .int .i64 (m : Int), u70, u71, u72, u73, va, vb, rfl, f0.out, f1.out, f2.out, f3.out, f4.out, f5.out, f6.out, f7.out, fun _ => ⟨m, rfl, by omega⟩, f9.out, f11.out, f12.out, f13.out, hX.out.eff he3 (by omega), hu3, hE.out.trans he3⟩
    · cases ho
      obtain rfl : b9 = false := hun
      obtain rfl : b10 = false := by cases b10 with
        | false => rfl
        | true => exact absurd (k10_9 rfl) Bool.false_ne_true
      obtain rfl : b11 = false := by cases b11 with
        | false => rfl
        | true => exact absurd (k11_10 rfl) Bool.false_ne_true
      obtain rfl : b13 = false := by cases b13 with
        | false => rfl
        | true => exact absurd (k13_11 rfl) Bool.false_ne_true
      obtain rfl : u67 = .pointer (some ⟨C, 0, none⟩) := f6 (hall ⟨6, .data⟩ (by simp) rfl)
      obtain ⟨m, rfl, hm⟩ := f8 (hall ⟨8, .data⟩ (by simp) rfl)
      replace f0 := hid f0
      replace f1 := hid f1
      replace f2 := hid f2
      replace f3 := hid f3
      replace f4 := hid f4
      replace f5 := hid f5
      replace f6 := hid f6
      replace f7 := hid f7
      replace f8 := hid f8
      replace f9 := hid f9
      replace f11 := hid f11
      replace f12 := hid f12
      replace f13 := hid f13
      replace hX := hid hX
      replace hU := hid hU
      replace hE := hid hE
      clear k10_9 k10_5 k11_10 k12_11 k13_11 k15_12 k15_14
      refine wpOp_step rfl (fun K hK => ?_)
      go_simp
      refine (any_any w0 ao n cap C zs m wq (by omega) HCO.out hU.out).mono ?_
      rintro e w3 ⟨s3, rfl, hs3, hu3, he3⟩
      obtain ⟨_, x14⟩ := hX.out.eff he3 (by omega)
      exact hK _ _ ⟨x, s3, u14, u15, u60, u61, u62, u63, u64, u65, u66, .pointer (some ⟨C, 0, none⟩), u68, .int .i64 (m : Int), .string s3, u71, u72, u73, va, vb, rfl, f0.out, f1.out, f2.out, f3.out, f4.out, f5.out, f6.out, f7.out, f8.out, fun _ => rfl, fun h => absurd (show false = true from h) Bool.false_ne_true, f12.out, fun h => absurd (show false = true from h) Bool.false_ne_true, ⟨fun h => absurd (show false = true from h) Bool.false_ne_true, x14⟩, hu3, hE.out.trans he3⟩
    · cases ho
      obtain rfl : b10 = false := hun
      obtain rfl : b11 = false := by cases b11 with
        | false => rfl
        | true => exact absurd (k11_10 rfl) Bool.false_ne_true
      obtain rfl : b12 = false := by cases b12 with
        | false => rfl
        | true => exact absurd (k12_11 rfl) Bool.false_ne_true
      obtain rfl : b15 = false := by cases b15 with
        | false => rfl
        | true => exact absurd (k15_12 rfl) Bool.false_ne_true
      obtain rfl : u61 = (.agg #[.slice a S.length c, .slice a' L.length c']) := f0 (hall ⟨0, .data⟩ (by simp) rfl)
      obtain rfl : u66 = .int .i64 x := f5 (hall ⟨5, .data⟩ (by simp) rfl)
      obtain rfl : u70 = .string s := f9 (hall ⟨9, .data⟩ (by simp) rfl)
      replace f0 := hid f0
      replace f1 := hid f1
      replace f2 := hid f2
      replace f3 := hid f3
      replace f4 := hid f4
      replace f5 := hid f5
      replace f6 := hid f6
      replace f7 := hid f7
      replace f8 := hid f8
      replace f9 := hid f9
      replace f11 := hid f11
      replace f12 := hid f12
      replace f13 := hid f13
      replace hX := hid hX
      replace hU := hid hU
      replace hE := hid hE
      clear k10_9 k10_5 k11_10 k12_11 k13_11 k15_12 k15_14
      refine wpOp_step rfl (fun K hK => ?_)
      go_simp
      refine (spec_write _ S L x s wq h1 h2 V1.out.dp).mono ?_
      rintro e w3 ⟨v3, rfl, ⟨va3, vb3, rfl, ho1, ho2⟩, hb3⟩
      have he3 := (Eff.refl C wq).ofBelow hb3
      obtain ⟨_, x14⟩ := hX.out.eff he3 (by omega)
      refine hK _ _ ⟨x, s, u14, u15, u60, (.agg #[.slice a S.length c, .slice a' L.length c']), u62, u63, u64, u65, .int .i64 x, u67, u68, u69, .string s, .tuple #[.agg #[va3, vb3], .bool (wrB S L x s)], u72, u73, va3, vb3, rfl, f0.out, f1.out, f2.out, f3.out, f4.out, f5.out, f6.out, f7.out, f8.out, f9.out, fun h => absurd (show false = true from h) Bool.false_ne_true, fun h => absurd (show false = true from h) Bool.false_ne_true, f13.out, ⟨fun _ => ⟨rfl, ho1.mono hbs, ho2.mono hbs⟩, fun e => ?_⟩, hU.out.below hb3, hE.out.trans he3⟩
      exact x14 e
    · cases ho
      obtain rfl : b11 = false := hun
      obtain rfl : b10 = true := (hall ⟨10, .data⟩ (by simp) rfl)
      obtain rfl : u71 = .tuple #[.agg #[va, vb], .bool (wrB S L x s)] := (hX.1 rfl).1
      replace f0 := hid f0
      replace f1 := hid f1
      replace f2 := hid f2
      replace f3 := hid f3
      replace f4 := hid f4
      replace f5 := hid f5
      replace f6 := hid f6
      replace f7 := hid f7
      replace f8 := hid f8
      replace f9 := hid f9
      replace f11 := hid f11
      replace f12 := hid f12
      replace f13 := hid f13
      replace hX := hid hX
      replace hU := hid hU
      replace hE := hid hE
      clear k10_9 k10_5 k11_10 k12_11 k13_11 k15_12 k15_14
      refine wpOp_step rfl (fun K hK => ?_)
      go_simp
      exact hK _ _ ⟨x, s, u14, u15, .tuple #[.agg #[va, vb], .bool (wrB S L x s)], u61, u62, u63, u64, u65, u66, u67, u68, u69, u70, .tuple #[.agg #[va, vb], .bool (wrB S L x s)], u72, u73, va, vb, rfl, f0.out, f1.out, f2.out, f3.out, f4.out, f5.out, f6.out, f7.out, f8.out, f9.out, fun _ => rfl, f12.out, f13.out, hX.out, hU.out, hE.out⟩
    · cases ho
      obtain rfl : b12 = false := hun
      obtain rfl : u60 = .tuple #[.agg #[va, vb], .bool (wrB S L x s)] := f11 (hall ⟨11, .data⟩ (by simp) rfl)
      replace f0 := hid f0
      replace f1 := hid f1
      replace f2 := hid f2
      replace f3 := hid f3
      replace f4 := hid f4
      replace f5 := hid f5
      replace f6 := hid f6
      replace f7 := hid f7
      replace f8 := hid f8
      replace f9 := hid f9
      replace f11 := hid f11
      replace f12 := hid f12
      replace f13 := hid f13
      replace hX := hid hX
      replace hU := hid hU
      replace hE := hid hE
      clear k10_9 k10_5 k11_10 k12_11 k13_11 k15_12 k15_14
      refine wpOp_step rfl (fun K hK => ?_)
      go_simp
      exact hK _ _ ⟨x, s, u14, u15, .tuple #[.agg #[va, vb], .bool (wrB S L x s)], u61, u62, u63, u64, u65, u66, u67, u68, u69, u70, u71, .agg #[va, vb], u73, va, vb, rfl, f0.out, f1.out, f2.out, f3.out, f4.out, f5.out, f6.out, f7.out, f8.out, f9.out, f11.out, fun _ => rfl, f13.out, hX.out, hU.out, hE.out⟩
    · cases ho
      obtain rfl : b13 = false := hun
      obtain rfl : u60 = .tuple #[.agg #[va, vb], .bool (wrB S L x s)] := f11 (hall ⟨11, .data⟩ (by simp) rfl)
      replace f0 := hid f0
      replace f1 := hid f1
      replace f2 := hid f2
      replace f3 := hid f3
      replace f4 := hid f4
      replace f5 := hid f5
      replace f6 := hid f6
      replace f7 := hid f7
      replace f8 := hid f8
      replace f9 := hid f9
      replace f11 := hid f11
      replace f12 := hid f12
      replace f13 := hid f13
      replace hX := hid hX
      replace hU := hid hU
      replace hE := hid hE
      clear k10_9 k10_5 k11_10 k12_11 k13_11 k15_12 k15_14
      refine wpOp_step rfl (fun K hK => ?_)
      go_simp
      exact hK _ _ ⟨x, s, u14, u15, .tuple #[.agg #[va, vb], .bool (wrB S L x s)], u61, u62, u63, u64, u65, u66, u67, u68, u69, u70, u71, u72, .bool (wrB S L x s), va, vb, rfl, f0.out, f1.out, f2.out, f3.out, f4.out, f5.out, f6.out, f7.out, f8.out, f9.out, f11.out, f12.out, fun _ => rfl, hX.out, hU.out, hE.out⟩
    · cases ho
      obtain rfl : b14 = false := hun
      obtain rfl : b15 = false := by cases b15 with
        | false => rfl
        | true => exact absurd (k15_14 rfl) Bool.false_ne_true
      replace f0 := hid f0
      replace f1 := hid f1
      replace f2 := hid f2
      replace f3 := hid f3
      replace f4 := hid f4
      replace f5 := hid f5
      replace f6 := hid f6
      replace f7 := hid f7
      replace f8 := hid f8
      replace f9 := hid f9
      replace f11 := hid f11
      replace f12 := hid f12
      replace f13 := hid f13
      replace hX := hid hX
      replace hU := hid hU
      replace hE := hid hE
      clear k10_9 k10_5 k11_10 k12_11 k13_11 k15_12 k15_14
      refine wpOp_step rfl (fun K hK => ?_)
      go_simp
      have ha := (Eff.refl C wq).alloc (.cells #[.slice none 0 0, .slice none 0 0] 27)
      obtain ⟨x10, _⟩ := hX.out.eff ha (by omega)
      exact hK _ _ ⟨x, s, .pointer (some ⟨wq.heap.size, 0, none⟩), u15, u60, u61, u62, u63, u64, u65, u66, u67, u68, u69, u70, u71, u72, u73, va, vb, rfl, f0.out, f1.out, f2.out, f3.out, f4.out, f5.out, f6.out, f7.out, f8.out, f9.out, f11.out, f12.out, f13.out, ⟨x10, fun _ => ⟨_, rfl, hbs, Blk.new wq [.slice none 0 0, .slice none 0 0] 27⟩⟩, hU.out.below ((Below.refl _ _).alloc (Nat.le_refl _) _), hE.out.alloc _⟩
    · cases ho
      obtain rfl : b15 = false := hun
      obtain rfl : b14 = true := (hall ⟨14, .data⟩ (by simp) rfl)
      obtain rfl : b10 = true := (hall ⟨10, .chain⟩ (by simp) rfl)
      obtain rfl : u72 = .agg #[va, vb] := f12 (hall ⟨12, .data⟩ (by simp) rfl)
      obtain ⟨x10, x14⟩ := hX
      obtain ⟨Bx, rfl, hBx, bX⟩ := x14 rfl
      obtain ⟨rfl, e2, e3⟩ := x10 rfl
      obtain ⟨xa, xc, rfl, _, _⟩ := e2.shape
      obtain ⟨ya, yc, rfl, _, _⟩ := e3.shape
      replace bX : Blk wq Bx [.slice none 0 0, .slice none 0 0] 27 := bX
      have q0 := bX.cell (i := 0) rfl
      have q1 := bX.cell (i := 1) rfl
      have l0 := bX.free 0
      have l1 := bX.free 1
      have X1 := bX.set 0 (.slice xa S.length xc)
      have q3 := X1.cell (i := 1) rfl
      have l3 := X1.free 1
      have X2 := hid (X1.set 1 (.slice ya (wrL S L x s).length yc))
      have G2 := hid ((e2.setCell_other (a := ⟨Bx, 0, none⟩) (fun e => e2.tag bX (by decide) e.symm) (.slice xa S.length xc)).setCell_other (a := ⟨Bx, 1, none⟩) (fun e => e2.tag bX (by decide) e.symm) (.slice ya (wrL S L x s).length yc))
      have G3 := hid ((e3.setCell_other (a := ⟨Bx, 0, none⟩) (fun e => e3.tag bX (by decide) e.symm) (.slice xa S.length xc)).setCell_other (a := ⟨Bx, 1, none⟩) (fun e => e3.tag bX (by decide) e.symm) (.slice ya (wrL S L x s).length yc))
      have HBW := (((Below.refl w2.heap.size wq).setCell (p := ⟨Bx, 0, none⟩) hBx (.slice xa S.length xc)).setCell (p := ⟨Bx, 1, none⟩) hBx (.slice ya (wrL S L x s).length yc))
      have hCB : C < w2.heap.size := hClt
      have B3 := hid (hE.ofBelow HBW)
      have U3 := hid (hU.belowB hCB HBW)
      clear HBW
      clear x10 x14 X1 e2 e3 bX
      replace f0 := hid f0
      replace f1 := hid f1
      replace f2 := hid f2
      replace f3 := hid f3
      replace f4 := hid f4
      replace f5 := hid f5
      replace f6 := hid f6
      replace f7 := hid f7
      replace f8 := hid f8
      replace f9 := hid f9
      replace f11 := hid f11
      replace f12 := hid f12
      replace f13 := hid f13
      replace hU := hid hU
      replace hE := hid hE
      clear k10_9 k10_5 k11_10 k12_11 k13_11 k15_12 k15_14
      refine wpOp_step rfl (fun K hK => ?_)
      go_simp
      exact hK _ _ ⟨x, s, .pointer (some ⟨Bx, 0, none⟩), u15, u60, u61, u62, u63, u64, u65, u66, u67, u68, u69, u70, .tuple #[.agg #[.slice xa S.length xc, .slice ya (wrL S L x s).length yc], .bool (wrB S L x s)], .agg #[.slice xa S.length xc, .slice ya (wrL S L x s).length yc], u73, .slice xa S.length xc, .slice ya (wrL S L x s).length yc, rfl, f0.out, f1.out, f2.out, f3.out, f4.out, f5.out, f6.out, f7.out, f8.out, f9.out, f11.out, f12.out, f13.out, ⟨fun _ => ⟨rfl, G2.out, G3.out⟩, fun _ => ⟨Bx, rfl, hBx, X2.out⟩⟩, U3.out, B3.out⟩
    · cases ho
      obtain rfl : b16 = false := hun
      obtain rfl : u73 = .bool (wrB S L x s) := f13 (hall ⟨13, .data⟩ (by simp) rfl)
      replace f0 := hid f0
      replace f1 := hid f1
      replace f2 := hid f2
      replace f3 := hid f3
      replace f4 := hid f4
      replace f5 := hid f5
      replace f6 := hid f6
      replace f7 := hid f7
      replace f8 := hid f8
      replace f9 := hid f9
      replace f11 := hid f11
      replace f12 := hid f12
      replace f13 := hid f13
      replace hX := hid hX
      replace hU := hid hU
      replace hE := hid hE
      clear k10_9 k10_5 k11_10 k12_11 k13_11 k15_12 k15_14
      refine wpOp_step rfl (fun K hK => ?_)
      go_simp
      exact hK _ _ ⟨x, s, u14, .bool (wrB S L x s), u60, u61, u62, u63, u64, u65, u66, u67, u68, u69, u70, u71, u72, .bool (wrB S L x s), va, vb, rfl, f0.out, f1.out, f2.out, f3.out, f4.out, f5.out, f6.out, f7.out, f8.out, f9.out, f11.out, f12.out, f13.out, hX.out, hU.out, hE.out⟩
end Go.Proofs.Ytphhgfgmlfdkiaa

/- The draw l11Log of the specification. -/
namespace Go.Proofs.Ytphhgfgmlfdkiaa
open Go.RowKit
set_option linter.unusedVariables false

theorem ap_room {S : List ByteArray} {L : List (Int × ByteArray)} {t : Int} {T : List ByteArray} (h0 : 0 ≤ t) (h1 : t ≤ S.length) : (apL S L t T).length ≤ L.length + S.length ∧ 0 ≤ apN S L t T ∧ apN S L t T ≤ S.length := by
  cases h : apB S L t T with
  | false => rw [(ap_no h).1, (ap_no h).2]; exact ⟨by omega, h0, h1⟩
  | true =>
    have hle : t + T.length ≤ S.length := by
      have h2 := h
      unfold apB at h2
      simp only [Bool.and_eq_true, decide_eq_true_eq] at h2
      exact h2.2.2.2.1
    rw [(ap_yes h).1, (ap_yes h).2, List.length_append, apW_len]
    exact ⟨by omega, by omega, hle⟩

/-- What a drawn log's variable holds. -/
def Dv (w : World) (M n0 : Nat) (S : List ByteArray) (L : List (Int × ByteArray)) : Prop := ∃ va vb, Blk w n0 [va, vb] 27 ∧ DO w M (.agg #[va, vb]) S L
theorem Dv.eff {C M n0 : Nat} {w w' : World} {S : List ByteArray} {L : List (Int × ByteArray)} (h : Dv w M n0 S L) (he : Eff C w w') (hb : C < M) (hn : n0 ≠ C) : Dv w' M n0 S L := by
  obtain ⟨va, vb, h1, h2⟩ := h
  exact ⟨va, vb, h1.eff he hn, h2.eff he hb⟩

theorem Dv.store {M n0 B : Nat} {w : World} {S : List ByteArray} {L : List (Int × ByteArray)} {x0 y0 va vb : Value} (hb : Blk w n0 [x0, y0] 27) (g1 : OwG w B 9 1 va S.length (encS S)) (g2 : OwG w B 69 2 vb L.length (encW L)) (hM : M ≤ B) :
    Dv ((w.setCell ⟨n0, 0, none⟩ va).setCell ⟨n0, 1, none⟩ vb) M n0 S L := by
  refine ⟨va, vb, (hb.set 0 va).set 1 vb, va, vb, rfl, ?_, ?_⟩
  · exact ((g1.setCell_other (a := ⟨n0, 0, none⟩) (fun e => g1.tag hb (by decide) e.symm) va).setCell_other (a := ⟨n0, 1, none⟩) (fun e => g1.tag hb (by decide) e.symm) vb).mono hM
  · exact ((g2.setCell_other (a := ⟨n0, 0, none⟩) (fun e => g2.tag hb (by decide) e.symm) va).setCell_other (a := ⟨n0, 1, none⟩) (fun e => g2.tag hb (by decide) e.symm) vb).mono hM
theorem dv_keep {w0 w w' : World} {ao : Option Addr} {n cap C n0 : Nat} {l : List Value} (hO : Blk w' w.heap.size l 27) (hc : Cur w0 ao n cap C w') (he : Eff C w w') (hC : C < w.heap.size) (hn : w.heap.size < n0) (x y : Value) :
    Blk ((w'.setCell ⟨n0, 0, none⟩ x).setCell ⟨n0, 1, none⟩ y) w.heap.size l 27 ∧ Cur w0 ao n cap C ((w'.setCell ⟨n0, 0, none⟩ x).setCell ⟨n0, 1, none⟩ y) ∧ Eff C w ((w'.setCell ⟨n0, 0, none⟩ x).setCell ⟨n0, 1, none⟩ y) := by
  have hb := ((Below.refl n0 w').setCell (p := ⟨n0, 0, none⟩) (Nat.le_refl _) x).setCell (p := ⟨n0, 1, none⟩) (Nat.le_refl _) y
  exact ⟨hO.below hb hn, hc.belowB (by omega) hb, he.ofBelow (hb.mono (by omega))⟩

theorem dv_end {w0 w w' : World} {ao : Option Addr} {n cap C : Nat} (hc : Cur w0 ao n cap C w') (he : Eff C w w') (hC : C < w.heap.size) (x y : Value) :
    Cur w0 ao n cap C ((w'.setCell ⟨w.heap.size, 0, none⟩ x).setCell ⟨w.heap.size, 1, none⟩ y) ∧ Eff C w ((w'.setCell ⟨w.heap.size, 0, none⟩ x).setCell ⟨w.heap.size, 1, none⟩ y) := by
  have hb := ((Below.refl w.heap.size w').setCell (p := ⟨w.heap.size, 0, none⟩) (Nat.le_refl _) x).setCell (p := ⟨w.heap.size, 1, none⟩) (Nat.le_refl _) y
  exact ⟨hc.belowB hC hb, he.ofBelow hb⟩

set_option maxRecDepth 100000 in
set_option maxHeartbeats 6400000 in
theorem draw_log (w0 : World) (ao : Option Addr) (n cap C : Nat) (zs : List Int) (w : World) (hcode : Code w0 ao n zs) (hcur : Cur w0 ao n cap C w) :
    Calls Try.prog 57 #[.pointer (some ⟨C, 0, none⟩)] w fun e w' => ∃ v t q, e = .returned (.tuple #[v, .int .i64 t, .int .i64 q]) ∧ ∃ (S : List ByteArray) (L : List (Int × ByteArray)), S.length + L.length ≤ 1000 ∧ DO w' w.heap.size v S L ∧ Cur w0 ao n cap C w' ∧ Eff C w w' := by
  have HCO := hid hcode
  have hClt := hcur.lt
  have hb := (Below.refl w.heap.size w).alloc (Nat.le_refl _) (.cells #[.slice none 0 0, .slice none 0 0] 27)
  have O := hid (Blk.new w [.slice none 0 0, .slice none 0 0] 27)
  have HE := hid ((Eff.refl C w).alloc (.cells #[.slice none 0 0, .slice none 0 0] 27))
  have HC := hid (hcur.below hb)
  clear hcode hcur hb
  go_enter Try.func57, Try.ntmps57
  go_wp2_with fail
  refine (below_any w0 ao n cap C zs _ _ HCO.out HC.out).mono ?_
  generalize w.alloc (.cells #[.slice none 0 0, .slice none 0 0] 27) = wa at *
  rintro e w1 ⟨z, rfl, hz, hc1, he1⟩
  have hz2 : 0 ≤ z ∧ z ≤ 13 := by omega
  replace O := hid (O.out.eff he1 (by omega))
  replace HC := hid hc1
  replace HE := hid (HE.out.trans he1)
  clear hc1 he1 hz
  have hwr : IntKind.i64.wrap (3 + z) = 3 + z := by rw [IntKind.wrap_i64]; omega
  go_wp2_with fail
  refine (spec_start (3 + z) w1).mono ?_
  rintro e w2 ⟨v, rfl, ⟨va, vb, rfl, o1, o2⟩, hb2⟩
  have hS0 : (stR (3 + z)).1.length ≤ 16 := by rw [stR_yes (by omega) (by omega)]; simp; omega
  generalize (stR (3 + z)).2 = bb
  generalize (stR (3 + z)).1 = S0 at *
  obtain ⟨xa, xc, rfl, p1, p1'⟩ := o1.shape
  obtain ⟨ya, yc, rfl, p2, p2'⟩ := o2.shape
  have hw12 := hb2.size
  have hw1 := HE.out.size
  replace O := hid (O.out.below hb2 O.out.lt)
  replace HC := hid (HC.out.below hb2)
  replace HE := hid (HE.out.trans ((Eff.refl C w1).ofBelow hb2))
  have hOl := O.out.lt
  have X2 := Blk.new w2 [.slice xa S0.length xc, .slice ya (0 : Nat) yc] 27
  have b2 := (Below.refl w2.heap.size w2).alloc (Nat.le_refl _) (.cells #[.slice xa S0.length xc, .slice ya (0 : Nat) yc] 27)
  have HV := hid (show Dv (w2.alloc (.cells #[.slice xa S0.length xc, .slice ya (0 : Nat) yc] 27)) w.heap.size w2.heap.size S0 [] from ⟨_, _, X2, _, _, rfl, (o1.below b2).mono (by omega), (o2.below b2).mono (by omega)⟩)
  replace O := hid (O.out.below b2 hOl)
  replace HC := hid (HC.out.below b2)
  replace HE := hid (HE.out.trans ((Eff.refl C w2).ofBelow b2))
  clear X2 b2 o1 o2 hb2 p1 p1' p2 p2'
  go_wp2_with fail
  refine (below_any w0 ao n cap C zs _ _ HCO.out HC.out).mono ?_
  generalize w2.alloc (.cells #[.slice xa S0.length xc, .slice ya (0 : Nat) yc] 27) = wb at *
  generalize w2.heap.size = n0 at *
  rintro e w3 ⟨y, rfl, hy, hc3, he3⟩
  obtain ⟨m, rfl⟩ : ∃ m : Nat, y = m := ⟨y.toNat, by omega⟩
  have hm : m ≤ 6 := by omega
  have hnC : n0 ≠ C := by omega
  replace O := hid (O.out.eff he3 (by omega))
  replace HV := hid (HV.out.eff he3 hClt hnC)
  replace HC := hid hc3
  replace HE := hid (HE.out.trans he3)
  have hnw : w.heap.size < n0 := hOl
  clear hc3 he3 hy hOl hw12 hw1
  go_wp2_with fail
  go_loopw [7, 8, 10] (fun t q i wr => ∃ (k : Nat) (tt qq : Int) (S : List ByteArray) (L : List (Int × ByteArray)), k ≤ m ∧ i = .int .i64 k ∧ t = .int .i64 tt ∧ q = .int .i64 qq ∧ Hid (0 ≤ tt ∧ tt ≤ S.length ∧ 0 ≤ qq ∧ qq ≤ k + 1 ∧ S.length ≤ 16 ∧ L.length ≤ 16 * k) ∧ Hid (Blk wr w.heap.size [.slice none 0 0, .slice none 0 0] 27) ∧ Hid (Dv wr w.heap.size n0 S L) ∧ Hid (Cur w0 ao n cap C wr) ∧ Hid (Eff C w wr)) (fun _ _ i _ => m - (intOf i).toNat)
  case atStart => exact ⟨0, 0, 1, S0, [], by omega, rfl, rfl, rfl, ⟨by omega, by omega, by omega, by omega, hS0, by simp⟩, O.out, HV.out, HC.out, HE.out⟩
  case round =>
    obtain ⟨k, t, q, S, L, hk, rfl, rfl, rfl, hbd, ho, hv, hc, he⟩ := hrel
    clear O HV HC HE
    obtain ⟨va, vb, N, V⟩ := hv.out
    obtain ⟨ht0, ht1, hq0, hq1, hS, hL⟩ := hbd.out
    by_cases hlt : k < m
    · have hlt' : (k : Int) < (m : Int) := by omega
      have c0 := N.cell (i := 0) rfl
      have c1 := N.cell (i := 1) rfl
      have HN := hid N
      have HV := hid V
      clear N V hv hbd
      go_wp2_with fail
      refine app_region _ w0 ao n cap C n0 zs t q va vb _ _ _ _ _ _ _ _ _ _ _ _ _ _ _ _ _ _ _ _ _ _ _ _ _ _ _ _ _ _ _ _ _ _ _ _ _ _ _ _ _ _ _ _ _ _ _ _ _ _ _ _ _ _ _ _ _ _ _ _ _ _ _ _ _ _ _ _ _ _ _ _ _ _ _ _ _ _ _ _ _ _ S L _ wr (by omega) (by omega) (by omega) w.heap.size hClt HCO.out hc.out hnC HN.out HV.out ?_
      intro s u30 u31 u32 u33 u34 u35 u36 u37 u38 u39 u40 u41 u42 Bx va3 vb3 wq hs hBx bX g1 g2 hu3 he3
      obtain ⟨hr1, hr2, hr3⟩ := ap_room (L := L) (T := partsP q s) ht0 ht1
      generalize apL S L t (partsP q s) = L3 at *
      generalize apN S L t (partsP q s) = t3 at *
      generalize apB S L t (partsP q s) = bb
      obtain ⟨xa, xc, rfl, _, _⟩ := g1.shape
      obtain ⟨ya, yc, rfl, _, _⟩ := g2.shape
      have hrs := he.out.size
      have N3 := HN.out.eff he3 hnC
      have HD := hid (Dv.store (M := w.heap.size) N3 g1 g2 hrs)
      have HKP := hid (dv_keep (ho.out.eff he3 (by omega)) hu3 (he.out.trans he3) hClt hnw (.slice xa S.length xc) (.slice ya L3.length yc))
      have z0 := bX.cell (i := 0) rfl
      have z1 := bX.cell (i := 1) rfl
      have q0 := N3.cell (i := 0) rfl
      have q1 := N3.cell (i := 1) rfl
      have l0 := N3.free 0
      have l1 := N3.free 1
      have X1 := N3.set 0 (.slice xa S.length xc)
      have q3 := X1.cell (i := 1) rfl
      have l3 := X1.free 1
      have hw1 : IntKind.i64.wrap (q + 1) = q + 1 := by rw [IntKind.wrap_i64]; omega
      clear N3 X1 g1 g2 hu3 he3 bX HN HV ho hc he c0 c1 hrs
      cases bb
      case' false =>
        have HT := hid (show 0 ≤ t ∧ t ≤ S.length ∧ 0 ≤ q ∧ q ≤ k + 2 from ⟨ht0, ht1, hq0, by omega⟩)
        clear ht0 ht1 hr2 hr3 hw1 hq0 hq1
        generalize t = T0 at *
        generalize q = Q0 at *
        go_wp2_with fail
      case' true =>
        have HT := hid (show 0 ≤ t3 ∧ t3 ≤ S.length ∧ 0 ≤ q + 1 ∧ q + 1 ≤ k + 2 from ⟨hr2, hr3, by omega, by omega⟩)
        clear ht0 ht1 hr2 hr3 hq0 hq1
        go_wp2_with fail
        clear hw1
        generalize t3 = T0 at *
        generalize q + 1 = Q0 at *
      all_goals
        refine (once_any w0 ao n cap C zs _ _ HCO.out HKP.out.2.1).mono ?_
        clear z0 z1 q0 q1 l0 l1 q3 l3
        generalize (wq.setCell _ _).setCell _ _ = wn at *
        rintro e w4 ⟨b, rfl, hc4, he4⟩
        have HO4 := hid (HKP.out.1.eff he4 (by omega))
        have HD4 := hid (HD.out.eff he4 hClt hnC)
        have HC4 := hid hc4
        have HE4 := hid (HKP.out.2.2.trans he4)
        have hL3 : L3.length ≤ 16 * (k + 1) := by omega
        clear hc4 he4 HD HKP
        cases b
        case' false =>
          go_wp2_with fail
          go_roundw
          case rel => exact ⟨k + 1, T0, Q0, S, L3, by omega, by go_num, rfl, rfl, ⟨HT.out.1, HT.out.2.1, HT.out.2.2.1, by have := HT.out.2.2.2; omega, hS, hL3⟩, HO4.out, HD4.out, HC4.out, HE4.out⟩
          case measure => simp [intOf]; omega
        case' true =>
          obtain ⟨va4, vb4, N4, V4⟩ := HD4.out
          have c0 := N4.cell (i := 0) rfl
          have c1 := N4.cell (i := 1) rfl
          have HN4 := hid N4
          have HV4 := hid V4
          clear N4 V4 HD4
          go_wp2_with fail
          refine (spec_sync _ S L3 w4 (by omega) (by omega) HV4.out.dp).mono ?_
          rintro e w5 ⟨v5, rfl, ⟨va5, vb5, rfl, g1, g2⟩, hb5⟩
          have hs5 := hid (bhS_len S L3 kpAll)
          have hl5 := bhL_len S L3
          generalize bhS S L3 kpAll = S5 at *
          generalize bhL S L3 = L5 at *
          obtain ⟨xa5, xc5, rfl, _, _⟩ := g1.shape
          obtain ⟨ya5, yc5, rfl, _, _⟩ := g2.shape
          have N5 := HN4.out.below hb5 HN4.out.lt
          have hrs := HE4.out.size
          have HD5 := hid (Dv.store (M := w.heap.size) N5 g1 g2 hrs)
          have HKP := hid (dv_keep (HO4.out.below hb5 HO4.out.lt) (HC4.out.below hb5) (HE4.out.trans ((Eff.refl C w4).ofBelow hb5)) hClt hnw (.slice xa5 S5.length xc5) (.slice ya5 L5.length yc5))
          have q0 := N5.cell (i := 0) rfl
          have q1 := N5.cell (i := 1) rfl
          have l0 := N5.free 0
          have l1 := N5.free 1
          have X1 := N5.set 0 (.slice xa5 S5.length xc5)
          have q3 := X1.cell (i := 1) rfl
          have l3 := X1.free 1
          clear N5 X1 g1 g2 HN4 HV4 HO4 HC4 HE4 c0 c1 hrs hb5
          go_wp2_with fail
          clear q0 q1 l0 l1 q3 l3
          go_roundw
          case rel => exact ⟨k + 1, T0, Q0, S5, L5, by omega, by go_num, rfl, rfl, ⟨HT.out.1, by rw [hs5.out]; exact HT.out.2.1, HT.out.2.2.1, by have := HT.out.2.2.2; omega, by have := hs5.out; omega, by omega⟩, HKP.out.1, HD5.out, HKP.out.2.1, HKP.out.2.2⟩
          case measure => simp [intOf]; omega
    · obtain rfl : k = m := by omega
      have hL2 : S.length + L.length ≤ 500 := by omega
      clear hL hbd ht0 ht1 hq0 hq1
      go_wp2_with fail
      refine (once_any w0 ao n cap C zs _ _ HCO.out hc.out).mono ?_
      rintro e w4 ⟨b, rfl, hc4, he4⟩
      have HO4 := hid (ho.out.eff he4 (by omega))
      have HD4 := hid (hv.out.eff he4 hClt hnC)
      have HC4 := hid hc4
      have HE4 := hid (he.out.trans he4)
      clear hc4 he4 ho hv hc he
      obtain ⟨va4, vb4, N4, V4⟩ := HD4.out
      obtain ⟨za, zc, rfl, _, _⟩ : ∃ za zc, va4 = .slice za S.length zc ∧ True ∧ True := by
        obtain ⟨_, _, e, g, _⟩ := V4
        obtain ⟨xa, xc, e2, _, _⟩ := g.shape
        cases e
        exact ⟨xa, xc, e2, trivial, trivial⟩
      obtain ⟨za', zc', rfl, _, _⟩ : ∃ za zc, vb4 = .slice za L.length zc ∧ True ∧ True := by
        obtain ⟨_, _, e, _, g⟩ := V4
        obtain ⟨xa, xc, e2, _, _⟩ := g.shape
        cases e
        exact ⟨xa, xc, e2, trivial, trivial⟩
      have c0 := N4.cell (i := 0) rfl
      have c1 := N4.cell (i := 1) rfl
      have HN4 := hid N4
      have HV4 := hid V4
      clear N4 V4
      cases b
      case' true =>
        go_wp2_with fail
        refine crash_region _ w0 ao n cap C n0 zs _ _ _ _ _ _ _ _ _ _ _ _ _ _ _ _ _ _ _ _ _ _ _ _ _ _ _ _ _ _ _ _ _ _ _ _ _ _ _ _ _ _ _ _ _ _ _ _ _ _ _ _ _ _ _ _ _ _ _ _ _ _ _ _ _ _ _ _ _ _ _ _ _ _ _ _ _ _ _ _ _ _ _ _ za zc za' zc' S L _ w4 (by omega) (by omega) w.heap.size hClt HCO.out HC4.out hnC HN4.out HV4.out ?_
        intro ks u54 u55 u56 u57 va5 vb5 wz g1 g2 hu5 he5
        have hs5 := hid (bhS_len S L (kpOf ks))
        have hl5 := bhL_len S L
        have hL5 : (bhS S L (kpOf ks)).length + (bhL S L).length ≤ 500 := by have := hs5.out; omega
        generalize bhS S L (kpOf ks) = S5 at *
        generalize bhL S L = L5 at *
        have HD5 := hid (Dv.store (M := w.heap.size) (HN4.out.eff he5 hnC) g1 g2 HE4.out.size)
        have HKP := hid (dv_keep (HO4.out.eff he5 (by omega)) hu5 (HE4.out.trans he5) hClt hnw va5 vb5)
        clear g1 g2 hu5 he5 HN4 HV4 HO4 HC4 HE4 HD4 c0 c1 hl5 hs5 hL2
        generalize (wz.setCell _ _).setCell _ _ = w5 at *
        have HO5 := hid HKP.out.1
        have HC5 := hid HKP.out.2.1
        have HE5 := hid HKP.out.2.2
        clear HKP
        go_wp2_with fail
      case' false =>
        have HD5 := hid HD4.out
        have HO5 := hid HO4.out
        have HC5 := hid HC4.out
        have HE5 := hid HE4.out
        have hL5 := hL2
        clear HN4 HV4 HO4 HC4 HE4 HD4 c0 c1 hL2
        generalize S = S5 at *
        generalize L = L5 at *
        generalize w4 = w5 at *
        go_wp2_with fail
      all_goals
        refine (once_any w0 ao n cap C zs _ _ HCO.out HC5.out).mono ?_
        rintro e w6 ⟨b, rfl, hc6, he6⟩
        have HO6 := hid (HO5.out.eff he6 (by omega))
        have HD6 := hid (HD5.out.eff he6 hClt hnC)
        have HC6 := hid hc6
        have HE6 := hid (HE5.out.trans he6)
        clear hc6 he6 HO5 HD5 HC5 HE5
        obtain ⟨va6, vb6, N6, V6⟩ := HD6.out
        obtain ⟨ya6, yc6, rfl⟩ : ∃ za zc, va6 = .slice za S5.length zc := by
          obtain ⟨_, _, e, g, _⟩ := V6
          obtain ⟨xa, xc, e2, _, _⟩ := g.shape
          cases e
          exact ⟨xa, xc, e2⟩
        obtain ⟨ya6', yc6', rfl⟩ : ∃ za zc, vb6 = .slice za L5.length zc := by
          obtain ⟨_, _, e, _, g⟩ := V6
          obtain ⟨xa, xc, e2, _, _⟩ := g.shape
          cases e
          exact ⟨xa, xc, e2⟩
        have c0 := N6.cell (i := 0) rfl
        have c1 := N6.cell (i := 1) rfl
        have HN6 := hid N6
        have HV6 := hid V6
        clear N6 V6
        cases b
        case' true =>
          go_wp2_with fail
          refine wr_region _ w0 ao n cap C n0 zs _ _ _ _ _ _ _ _ _ _ _ _ _ _ _ _ _ _ _ _ _ _ _ _ _ _ _ _ _ _ _ _ _ _ _ _ _ _ _ _ _ _ _ _ _ _ _ _ _ _ _ _ _ _ _ _ _ _ _ _ _ _ _ _ _ _ _ _ _ _ _ _ _ _ _ _ _ _ _ _ _ _ _ _ ya6 yc6 ya6' yc6' S5 L5 _ w6 (by omega) (by omega) w.heap.size hClt HCO.out HC6.out hnC HN6.out HV6.out ?_
          intro x s u15 u60 u61 u62 u63 u64 u65 u66 u67 u68 u69 u70 u71 u72 u73 Bx va7 vb7 wq hBx bX g1 g2 hu7 he7
          have hl7 := wrL_len S5 L5 x s
          generalize wrL S5 L5 x s = L7 at *
          have hL7 : S5.length + L7.length ≤ 600 := by omega
          obtain ⟨xa7, xc7, rfl, _, _⟩ := g1.shape
          obtain ⟨xa7', xc7', rfl, _, _⟩ := g2.shape
          have N7 := HN6.out.eff he7 hnC
          have HD7 := hid (Dv.store (M := w.heap.size) N7 g1 g2 HE6.out.size)
          have HKP := hid (dv_keep (HO6.out.eff he7 (by omega)) hu7 (HE6.out.trans he7) hClt hnw (.slice xa7 S5.length xc7) (.slice xa7' L7.length xc7'))
          have z0 := bX.cell (i := 0) rfl
          have z1 := bX.cell (i := 1) rfl
          have q0 := N7.cell (i := 0) rfl
          have q1 := N7.cell (i := 1) rfl
          have l0 := N7.free 0
          have l1 := N7.free 1
          have X1 := N7.set 0 (.slice xa7 S5.length xc7)
          have q3 := X1.cell (i := 1) rfl
          have l3 := X1.free 1
          clear N7 X1 g1 g2 hu7 he7 bX HN6 HV6 HO6 HC6 HE6 HD6 c0 c1 hl7 hL5
          go_wp2_with fail
          clear z0 z1 q0 q1 l0 l1 q3 l3
          generalize (wq.setCell _ _).setCell _ _ = w7 at *
          have HO7 := hid HKP.out.1
          have HC7 := hid HKP.out.2.1
          have HE7 := hid HKP.out.2.2
          clear HKP
        case' false =>
          have HD7 := hid HD6.out
          have HO7 := hid HO6.out
          have HC7 := hid HC6.out
          have HE7 := hid HE6.out
          have hL7 : S5.length + L5.length ≤ 600 := by omega
          clear HN6 HV6 HO6 HC6 HE6 HD6 c0 c1 hL5
          generalize L5 = L7 at *
          generalize w6 = w7 at *
          go_wp2_with fail
        all_goals
          refine (once_any w0 ao n cap C zs _ _ HCO.out HC7.out).mono ?_
          rintro e w8 ⟨b, rfl, hc8, he8⟩
          have HO8 := hid (HO7.out.eff he8 (by omega))
          have HD8 := hid (HD7.out.eff he8 hClt hnC)
          have HC8 := hid hc8
          have HE8 := hid (HE7.out.trans he8)
          clear hc8 he8 HO7 HD7 HC7 HE7
          obtain ⟨va8, vb8, N8, va8', vb8', e8, g1, g2⟩ := HD8.out
          cases e8
          obtain ⟨ya8, yc8, rfl, _, _⟩ := g1.shape
          obtain ⟨ya8', yc8', rfl, _, _⟩ := g2.shape
          have c0 := N8.cell (i := 0) rfl
          have c1 := N8.cell (i := 1) rfl
          have o0 := HO8.out.cell (i := 0) rfl
          have o1 := HO8.out.cell (i := 1) rfl
          have f0 := HO8.out.free 0
          have f1 := HO8.out.free 1
          have HN8 := hid N8
          have G1 := hid g1
          have G2 := hid g2
          clear N8 g1 g2
          cases b
          case' false =>
            have Z0 := hid (Dv.store (M := w.heap.size) HO8.out G1.out G2.out (Nat.le_refl _))
            have Z1 := hid (dv_end HC8.out HE8.out hClt (.slice ya8 S5.length yc8) (.slice ya8' L7.length yc8'))
            have F := (HO8.out.set 0 (.slice ya8 S5.length yc8)).set 1 (.slice ya8' L7.length yc8')
            have y0 := F.cell (i := 0) rfl
            have y1 := F.cell (i := 1) rfl
            have F1 := HO8.out.set 0 (.slice ya8 S5.length yc8)
            have o3 := F1.cell (i := 1) rfl
            have f3 := F1.free 1
            clear F F1
            go_wp2_with fail
            refine bodyPost_ret (v := .tuple #[.agg #[.slice ya8 S5.length yc8, .slice ya8' L7.length yc8'], .int .i64 t, .int .i64 q]) (by simp [results, Try.results57, go_sem, y0, y1]) rfl ?_
            obtain ⟨va, vb, hz, hdo⟩ := Z0.out
            have e0 := hz.cell (i := 0) rfl
            have e1 := hz.cell (i := 1) rfl
            rw [y0] at e0
            rw [y1] at e1
            cases e0
            cases e1
            exact ⟨_, t, q, rfl, S5, L7, by omega, hdo, Z1.out.1, Z1.out.2⟩
          case' true =>
            have hl4 : L7.length < 1000000000 := by omega
            have hone := one_W (-1) ByteArray.empty
            go_wp2_with (at_builtin; refine wpList_pushG w8 w8.heap.size rfl rfl _ _ 25 rfl w.heap.size 69 (.agg #[.int .i64 0, .string ByteArray.empty]) 2 24 Try.underlying25 Try.info69 rfl (by decide) (.slice ya8' L7.length yc8') L7.length (encW L7) rfl G2.out [.int .i64 (-1), .string ByteArray.empty] rfl hone rfl hl4 (by decide) ?_)
            intro v9 w9 ho9 hb9 hg9 _
            obtain ⟨va9, vc9, rfl, _, _⟩ := ho9.shape
            have N9 := HN8.out.kept hg9 (G2.out.tag HN8.out (by decide))
            have O9 := HO8.out.kept hg9 (G2.out.tag HO8.out (by decide))
            have H1 := G1.out.kept hg9 (G1.out.apart G2.out (by decide))
            have H2 := ho9.cast2 (n' := (L7 ++ [(-1, ByteArray.empty)]).length) (by simp) (encW_snoc L7 (-1) ByteArray.empty)
            have C9 := HC8.out.belowB hClt hb9
            have E9 := HE8.out.ofBelow hb9
            have n0' := N9.cell (i := 0) rfl
            have n1' := N9.cell (i := 1) rfl
            have nf := N9.free 1
            have X9 := N9.set 1 (.slice va9 (L7.length + 1) vc9)
            have x0 := X9.cell (i := 0) rfl
            have x1 := X9.cell (i := 1) rfl
            have bx := (Below.refl n0 w9).setCell (p := ⟨n0, 1, none⟩) (Nat.le_refl _) (.slice va9 (L7.length + 1) vc9)
            have C10 := C9.belowB (by omega) bx
            have E10 := E9.ofBelow (bx.mono (by omega))
            have O10 := O9.below bx hnw
            have J1 := H1.setCell_other (a := ⟨n0, 1, none⟩) (fun e => H1.tag N9 (by decide) e.symm) (.slice va9 (L7.length + 1) vc9)
            have J2 := H2.setCell_other (a := ⟨n0, 1, none⟩) (fun e => H2.tag N9 (by decide) e.symm) (.slice va9 (L7.length + 1) vc9)
            have Z0 := hid (Dv.store (M := w.heap.size) O10 J1 J2 (Nat.le_refl _))
            have Z1 := hid (dv_end C10 E10 hClt (.slice ya8 S5.length yc8) (.slice va9 (L7.length + 1) vc9))
            clear o0 o1 f0 f1 c0 c1
            have o0 := O10.cell (i := 0) rfl
            have o1 := O10.cell (i := 1) rfl
            have f0 := O10.free 0
            have f1 := O10.free 1
            have F1 := O10.set 0 (.slice ya8 S5.length yc8)
            have o3 := F1.cell (i := 1) rfl
            have f3 := F1.free 1
            have F := F1.set 1 (.slice va9 (L7.length + 1) vc9)
            have y0 := F.cell (i := 0) rfl
            have y1 := F.cell (i := 1) rfl
            clear F F1 J1 J2 O10 E10 C10 bx X9 E9 C9 H2 H1 O9 N9 ho9 hb9 hg9 G1 G2 HN8 HO8 HC8 HE8 HD8
            go_wp2_with fail
            refine bodyPost_ret (v := .tuple #[.agg #[.slice ya8 S5.length yc8, .slice va9 (L7.length + 1) vc9], .int .i64 t, .int .i64 q]) (by simp [results, Try.results57, go_sem, y0, y1]) rfl ?_
            obtain ⟨va, vb, hz, hdo⟩ := Z0.out
            have e0 := hz.cell (i := 0) rfl
            have e1 := hz.cell (i := 1) rfl
            rw [y0] at e0
            rw [y1] at e1
            cases e0
            cases e1
            exact ⟨_, t, q, rfl, S5, L7 ++ [(-1, ByteArray.empty)], by simp; omega, hdo, Z1.out.1, Z1.out.2⟩
end Go.Proofs.Ytphhgfgmlfdkiaa

/- DrawLogOpen. -/
namespace Go.Proofs.Ytphhgfgmlfdkiaa
open Go.RowKit
set_option linter.unusedVariables false

set_option maxRecDepth 100000 in
set_option maxHeartbeats 3200000 in
theorem draw_logOpen (ao : Option Addr) (n cap : Nat) (zs : List Int) (w : World) (hcode : Code w ao n zs) :
    Calls Try.prog 23 #[.slice ao n cap] w fun e w' => ∃ v, e = .returned v ∧ ∃ (S : List ByteArray) (L : List (Int × ByteArray)), S.length + L.length ≤ 1000 ∧ DO w' w.heap.size v S L ∧ Below w.heap.size w w' := by
  have hb0 := (Below.refl w.heap.size w).alloc (Nat.le_refl _) (.cells #[.slice none 0 0, .slice none 0 0] 27)
  have HB := hid hb0
  have HC := hid (show Code (w.alloc (.cells #[.slice none 0 0, .slice none 0 0] 27)) ao n zs from ⟨hcode.1, hcode.2.1.below (Nat.le_refl _) hb0, hcode.2.2⟩)
  have O := hid (Blk.new w [.slice none 0 0, .slice none 0 0] 27)
  have hsz : (w.alloc (.cells #[.slice none 0 0, .slice none 0 0] 27)).heap.size = w.heap.size + 1 := by simp
  clear hcode hb0
  go_enter Try.func23, Try.ntmps23
  go_wp2_with fail
  generalize w.alloc (.cells #[.slice none 0 0, .slice none 0 0] 27) = wa at *
  refine (new_any ao n cap zs wa HC.out).mono ?_
  rintro e w1 ⟨C, rfl, hc1, hb1⟩
  have HC1 := hid hc1
  have hCw := hc1.1
  have hC1 := hc1.lt
  have hO1 := hid (O.out.below hb1 O.out.lt)
  have HB1 := hid (HB.out.trans (hb1.mono (by omega)))
  clear hc1 hb1
  go_wp2_with fail
  refine (draw_log wa ao n cap C zs w1 HC.out HC1.out).mono ?_
  rintro e w2 ⟨v, t, q, rfl, S, L, hlen, ⟨va, vb, rfl, g1, g2⟩, hc2, he2⟩
  obtain ⟨xa, xc, rfl, _, _⟩ := g1.shape
  obtain ⟨ya, yc, rfl, _, _⟩ := g2.shape
  have O2 := hO1.out.eff he2 (by omega)
  have hb2 : Below w.heap.size w w2 := HB1.out.trans ((he2.below (by omega)).mono (by omega))
  have hsz2 := he2.size
  have ba := (Below.refl w2.heap.size w2).alloc (Nat.le_refl _) (.cells #[.slice xa S.length xc, .slice ya L.length yc] 27)
  have N3 := Blk.new w2 [.slice xa S.length xc, .slice ya L.length yc] 27
  have O3 := O2.below ba O2.lt
  have G1 := g1.below ba
  have G2 := g2.below ba
  have hb3 := hb2.trans (ba.mono (by omega))
  have n0 := N3.cell (i := 0) rfl
  have n1 := N3.cell (i := 1) rfl
  have o0 := O3.cell (i := 0) rfl
  have o1 := O3.cell (i := 1) rfl
  have f0 := O3.free 0
  have f1 := O3.free 1
  have F1 := O3.set 0 (.slice xa S.length xc)
  have o3 := F1.cell (i := 1) rfl
  have f3 := F1.free 1
  have F := F1.set 1 (.slice ya L.length yc)
  have y0 := F.cell (i := 0) rfl
  have y1 := F.cell (i := 1) rfl
  have HD := hid (show DO (((w2.alloc (.cells #[.slice xa S.length xc, .slice ya L.length yc] 27)).setCell ⟨w.heap.size, 0, none⟩ (.slice xa S.length xc)).setCell ⟨w.heap.size, 1, none⟩ (.slice ya L.length yc)) w.heap.size (.agg #[.slice xa S.length xc, .slice ya L.length yc]) S L from
    ⟨_, _, rfl, ((G1.setCell_below (a := ⟨w.heap.size, 0, none⟩) (by show w.heap.size < w1.heap.size; omega) _).setCell_below (a := ⟨w.heap.size, 1, none⟩) (by show w.heap.size < w1.heap.size; omega) _).mono (by omega), ((G2.setCell_below (a := ⟨w.heap.size, 0, none⟩) (by show w.heap.size < w1.heap.size; omega) _).setCell_below (a := ⟨w.heap.size, 1, none⟩) (by show w.heap.size < w1.heap.size; omega) _).mono (by omega)⟩)
  have HBE := hid ((hb3.setCell (p := ⟨w.heap.size, 0, none⟩) (Nat.le_refl _) (.slice xa S.length xc)).setCell (p := ⟨w.heap.size, 1, none⟩) (Nat.le_refl _) (.slice ya L.length yc))
  clear F F1 O3 O2 N3 ba G1 G2 g1 g2 hb2 hb3 hc2 he2 HB HC O HC1 hO1 HB1
  have hw2 : w.heap.size ≠ w2.heap.size := by omega
  go_wp2_with fail
  refine bodyPost_ret (v := .agg #[.slice xa S.length xc, .slice ya L.length yc]) (by simp [results, Try.results23, go_sem, y0, y1]) rfl ?_
  exact ⟨_, rfl, S, L, hlen, HD.out, HBE.out⟩
end Go.Proofs.Ytphhgfgmlfdkiaa
