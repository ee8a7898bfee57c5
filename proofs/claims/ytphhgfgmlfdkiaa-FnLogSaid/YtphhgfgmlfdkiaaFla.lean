/- The law FnLog: the statement that appends a text. -/
import Derived.Test.YtphhgfgmlfdkiaaDlo
import Derived.Test.YtphhgfgmlfdkiaaAp
namespace Go.Proofs.Ytphhgfgmlfdkiaa
open Go.RowKit
set_option linter.unusedVariables false

/-- What stands in memory while the statement is done. -/
def Xf (m0 : Nat) (S : List ByteArray) (L : List (Int × ByteArray)) (t : Int) (k : Nat) (s : ByteArray) (b8 b13 b14 : Bool) (u9 u47 va vb : Value) (wq : World) : Prop :=
  (b8 = true → u47 = .tuple #[.agg #[va, vb], .int .i64 (apN S L t (partsP ((k : Int) + 1) s)), .bool (apB S L t (partsP ((k : Int) + 1) s))] ∧ OwG wq m0 9 1 va S.length (encS S) ∧ OwG wq m0 69 2 vb (apL S L t (partsP ((k : Int) + 1) s)).length (encW (apL S L t (partsP ((k : Int) + 1) s)))) ∧ (b13 = true → ∃ Bx, u9 = .pointer (some ⟨Bx, 0, none⟩) ∧ m0 ≤ Bx ∧ Blk wq Bx (if b14 = true then [va, vb] else [.slice none 0 0, .slice none 0 0]) 27)
theorem Xf.below {m0 : Nat} {S : List ByteArray} {L : List (Int × ByteArray)} {t : Int} {k : Nat} {s : ByteArray} {b8 b13 b14 : Bool} {u9 u47 va vb : Value} {w w' : World} (h : Xf m0 S L t k s b8 b13 b14 u9 u47 va vb w) (hb : Below w.heap.size w w') : Xf m0 S L t k s b8 b13 b14 u9 u47 va vb w' := by
  obtain ⟨h2, h3⟩ := h
  refine ⟨fun e => ?_, fun e => ?_⟩
  · obtain ⟨e1, e2, e3⟩ := h2 e
    exact ⟨e1, e2.below hb, e3.below hb⟩
  · obtain ⟨Bx, e1, e2, e3⟩ := h3 e
    exact ⟨Bx, e1, e2, e3.below hb e3.lt⟩

set_option maxRecDepth 100000 in
set_option maxHeartbeats 6400000 in
theorem fl_region (zp : String) (n0 lb lo ln lc k : Nat) (t : Int) (va0 vb0 t0 t1 t2 t5 t7 t12 t13 t14 t15 t16 t17 t18 t19 t20 t21 t22 t23 t24 t25 t26 t27 t28 t29 t30 t31 t32 t33 t34 t35 t36 t37 t51 t52 t53 t54 t55 t56 t57 t58 t59 t60 t61 t62 t63 t64 t65 t66 t67 t68 t69 t70 t71 t72 t73 t74 t75 t76 t77 t78 t79 t80 t81 t82 t83 t84 t85 t86 t87 t88 t89 t90 t91 t92 t93 t94 t95 t96 t97 t98 t99 t100 t101 t102 t103 t104 t105 t106 t107 t108 t109 t110 t111 t112 t113 t114 t115 t116 t117 t118 t119 t120 t121 t122 t123 t124 t125 t126 t127 t128 t129 t130 t131 t132 t133 t134 t135 t136 t137 t138 t139 t140 t141 t142 t143 t144 t145 t146 t147 t148 t149 t150 t151 t152 t153 t154 t155 t156 t157 t158 t159 t160 t161 t162 t163 t164 t165 t166 t167 t168 t169 t170 t171 t172 t173 t174 t175 t176 t177 s9 s10 s11 s38 s39 s40 s41 s42 s43 s44 s45 s46 s47 s48 s49 s50 : Value) (S : List ByteArray) (L : List (Int × ByteArray)) (s : ByteArray) (Q : Exit → Act → World → Prop) (w2 : World) (h1 : S.length ≤ 1048576) (h2 : L.length ≤ 1048576) (hs : s.size ≤ 1048576) (hk : k < ln) (hkn : ln ≤ 1000)
    (N : Blk w2 n0 [va0, vb0] 27) (V : DP w2 (.agg #[va0, vb0]) S L) (hc : w2.cell? ⟨lb, lo + k, none⟩ = some (.string s))
    (hQ : ∀ u38 u39 u40 u41 u42 u43 u44 u45 u46 u47 u48 u49 u50 Bx va vb wq, w2.heap.size ≤ Bx → Blk wq Bx [va, vb] 27 → OwG wq w2.heap.size 9 1 va S.length (encS S) → OwG wq w2.heap.size 69 2 vb (apL S L t (partsP ((k : Int) + 1) s)).length (encW (apL S L t (partsP ((k : Int) + 1) s))) → Below w2.heap.size w2 wq → Q .normal { tmps := #[t0, t1, t2, .pointer (some ⟨n0, 0, none⟩), .slice (some ⟨lb, lo, none⟩) ln lc, t5, .int .i64 t, t7, .int .i64 (k : Int), .pointer (some ⟨Bx, 0, none⟩), .int .i64 (apN S L t (partsP ((k : Int) + 1) s)), .bool (apB S L t (partsP ((k : Int) + 1) s)), t12, t13, t14, t15, t16, t17, t18, t19, t20, t21, t22, t23, t24, t25, t26, t27, t28, t29, t30, t31, t32, t33, t34, t35, t36, t37, u38, u39, u40, u41, u42, u43, u44, u45, u46, u47, u48, u49, u50, t51, t52, t53, t54, t55, t56, t57, t58, t59, t60, t61, t62, t63, t64, t65, t66, t67, t68, t69, t70, t71, t72, t73, t74, t75, t76, t77, t78, t79, t80, t81, t82, t83, t84, t85, t86, t87, t88, t89, t90, t91, t92, t93, t94, t95, t96, t97, t98, t99, t100, t101, t102, t103, t104, t105, t106, t107, t108, t109, t110, t111, t112, t113, t114, t115, t116, t117, t118, t119, t120, t121, t122, t123, t124, t125, t126, t127, t128, t129, t130, t131, t132, t133, t134, t135, t136, t137, t138, t139, t140, t141, t142, t143, t144, t145, t146, t147, t148, t149, t150, t151, t152, t153, t154, t155, t156, t157, t158, t159, t160, t161, t162, t163, t164, t165, t166, t167, t168, t169, t170, t171, t172, t173, t174, t175, t176, t177], defers := [] } wq) :
    (Code.region 8 #[{ dst := some 39, op := Op.load 27 (Operand.tmp 3), type := 27, pos := zp, after := #[], guard := none }, { dst := some 40, op := Op.move (Operand.tmp 6), type := 3, pos := zp, after := #[], guard := none }, { dst := some 41, op := Op.move (Operand.tmp 8), type := 3, pos := zp, after := #[], guard := none }, { dst := some 42, op := Op.binOp BinOp.add 3 (Operand.tmp 41) (Operand.const (Value.int IntKind.i64 1)) 3, type := 3, pos := zp, after := #[{ on := 2, ground := Ground.data }], guard := none }, { dst := some 43, op := Op.move (Operand.tmp 4), type := 24, pos := zp, after := #[], guard := none }, { dst := some 44, op := Op.move (Operand.tmp 8), type := 3, pos := zp, after := #[], guard := none }, { dst := some 45, op := Op.indexAddr 24 (Operand.tmp 43) (Operand.tmp 44), type := 0, pos := zp, after := #[{ on := 4, ground := Ground.data }, { on := 5, ground := Ground.data }], guard := none }, { dst := some 46, op := Op.load 9 (Operand.tmp 45), type := 9, pos := zp, after := #[{ on := 6, ground := Ground.data }], guard := none }, { dst := some 47, op := Op.call { callee := Callee.value (Operand.func 11), args := #[Operand.tmp 39, Operand.tmp 40, Operand.tmp 42, Operand.tmp 46], argTypes := #[27, 3, 3, 9] }, type := 31, pos := zp, after := #[{ on := 0, ground := Ground.data }, { on := 1, ground := Ground.data }, { on := 3, ground := Ground.data }, { on := 7, ground := Ground.data }], guard := none }, { dst := some 38, op := Op.move (Operand.tmp 47), type := 31, pos := zp, after := #[{ on := 8, ground := Ground.data }], guard := none }, { dst := some 48, op := Op.extract (Operand.tmp 38) 0, type := 27, pos := zp, after := #[{ on := 9, ground := Ground.data }], guard := none }, { dst := some 49, op := Op.extract (Operand.tmp 38) 1, type := 3, pos := zp, after := #[{ on := 9, ground := Ground.data }, { on := 14, ground := Ground.gcOnly Departure.lateStores }], guard := none }, { dst := some 50, op := Op.extract (Operand.tmp 38) 2, type := 4, pos := zp, after := #[{ on := 9, ground := Ground.data }, { on := 15, ground := Ground.gcOnly Departure.lateStores }], guard := none }, { dst := some 9, op := Op.alloc 27, type := 0, pos := zp, after := #[], guard := none }, { dst := none, op := Op.store 27 (Operand.tmp 9) (Operand.tmp 48), type := 0, pos := zp, after := #[{ on := 13, ground := Ground.data }, { on := 10, ground := Ground.data }, { on := 8, ground := Ground.chain }, { on := 0, ground := Ground.phase }, { on := 1, ground := Ground.phase }, { on := 2, ground := Ground.phase }, { on := 3, ground := Ground.phase }, { on := 4, ground := Ground.phase }, { on := 5, ground := Ground.phase }, { on := 6, ground := Ground.phase }, { on := 7, ground := Ground.phase }, { on := 8, ground := Ground.phase }, { on := 9, ground := Ground.phase }, { on := 10, ground := Ground.phase }, { on := 11, ground := Ground.textOnly Departure.lateStores }, { on := 12, ground := Ground.textOnly Departure.lateStores }, { on := 13, ground := Ground.phase }], guard := none }, { dst := some 10, op := Op.assign (Operand.tmp 49), type := 3, pos := zp, after := #[{ on := 11, ground := Ground.data }, { on := 14, ground := Ground.chain }, { on := 0, ground := Ground.phase }, { on := 1, ground := Ground.phase }, { on := 2, ground := Ground.phase }, { on := 3, ground := Ground.phase }, { on := 4, ground := Ground.phase }, { on := 5, ground := Ground.phase }, { on := 6, ground := Ground.phase }, { on := 7, ground := Ground.phase }, { on := 8, ground := Ground.phase }, { on := 9, ground := Ground.phase }, { on := 10, ground := Ground.phase }, { on := 11, ground := Ground.phase }, { on := 12, ground := Ground.textOnly Departure.lateStores }, { on := 13, ground := Ground.phase }, { on := 14, ground := Ground.phase }], guard := none }, { dst := some 11, op := Op.assign (Operand.tmp 50), type := 4, pos := zp, after := #[{ on := 12, ground := Ground.data }, { on := 15, ground := Ground.chain }, { on := 0, ground := Ground.phase }, { on := 1, ground := Ground.phase }, { on := 2, ground := Ground.phase }, { on := 3, ground := Ground.phase }, { on := 4, ground := Ground.phase }, { on := 5, ground := Ground.phase }, { on := 6, ground := Ground.phase }, { on := 7, ground := Ground.phase }, { on := 8, ground := Ground.phase }, { on := 9, ground := Ground.phase }, { on := 10, ground := Ground.phase }, { on := 11, ground := Ground.phase }, { on := 12, ground := Ground.phase }, { on := 13, ground := Ground.phase }, { on := 14, ground := Ground.phase }, { on := 15, ground := Ground.phase }], guard := none }] true).wp Try.prog Q { tmps := #[t0, t1, t2, .pointer (some ⟨n0, 0, none⟩), .slice (some ⟨lb, lo, none⟩) ln lc, t5, .int .i64 t, t7, .int .i64 (k : Int), s9, s10, s11, t12, t13, t14, t15, t16, t17, t18, t19, t20, t21, t22, t23, t24, t25, t26, t27, t28, t29, t30, t31, t32, t33, t34, t35, t36, t37, s38, s39, s40, s41, s42, s43, s44, s45, s46, s47, s48, s49, s50, t51, t52, t53, t54, t55, t56, t57, t58, t59, t60, t61, t62, t63, t64, t65, t66, t67, t68, t69, t70, t71, t72, t73, t74, t75, t76, t77, t78, t79, t80, t81, t82, t83, t84, t85, t86, t87, t88, t89, t90, t91, t92, t93, t94, t95, t96, t97, t98, t99, t100, t101, t102, t103, t104, t105, t106, t107, t108, t109, t110, t111, t112, t113, t114, t115, t116, t117, t118, t119, t120, t121, t122, t123, t124, t125, t126, t127, t128, t129, t130, t131, t132, t133, t134, t135, t136, t137, t138, t139, t140, t141, t142, t143, t144, t145, t146, t147, t148, t149, t150, t151, t152, t153, t154, t155, t156, t157, t158, t159, t160, t161, t162, t163, t164, t165, t166, t167, t168, t169, t170, t171, t172, t173, t174, t175, t176, t177], defers := [] } w2 := by
  have HQ := hid hQ
  clear hQ
  have hlt : w2.heap.size > lb := World.block_lt_of_cell? w2 _ hc
  have hk1 : IntKind.i64.wrap ((k : Int) + 1) = (k : Int) + 1 := by rw [IntKind.wrap_i64]; omega
  have hkl : (k : Int) < (ln : Int) := by omega
  refine wp_region_any (by kernel_rfl) ?_
  refine wpAny_inv (fun listed ac wq => ∃ u9 u10 u11 u38 u39 u40 u41 u42 u43 u44 u45 u46 u47 u48 u49 u50 va vb, ac = { tmps := #[t0, t1, t2, .pointer (some ⟨n0, 0, none⟩), .slice (some ⟨lb, lo, none⟩) ln lc, t5, .int .i64 t, t7, .int .i64 (k : Int), u9, u10, u11, t12, t13, t14, t15, t16, t17, t18, t19, t20, t21, t22, t23, t24, t25, t26, t27, t28, t29, t30, t31, t32, t33, t34, t35, t36, t37, u38, u39, u40, u41, u42, u43, u44, u45, u46, u47, u48, u49, u50, t51, t52, t53, t54, t55, t56, t57, t58, t59, t60, t61, t62, t63, t64, t65, t66, t67, t68, t69, t70, t71, t72, t73, t74, t75, t76, t77, t78, t79, t80, t81, t82, t83, t84, t85, t86, t87, t88, t89, t90, t91, t92, t93, t94, t95, t96, t97, t98, t99, t100, t101, t102, t103, t104, t105, t106, t107, t108, t109, t110, t111, t112, t113, t114, t115, t116, t117, t118, t119, t120, t121, t122, t123, t124, t125, t126, t127, t128, t129, t130, t131, t132, t133, t134, t135, t136, t137, t138, t139, t140, t141, t142, t143, t144, t145, t146, t147, t148, t149, t150, t151, t152, t153, t154, t155, t156, t157, t158, t159, t160, t161, t162, t163, t164, t165, t166, t167, t168, t169, t170, t171, t172, t173, t174, t175, t176, t177], defers := [] } ∧ (listed.getD 0 false = true → u39 = .agg #[va0, vb0]) ∧ (listed.getD 1 false = true → u40 = .int .i64 t) ∧ (listed.getD 2 false = true → u41 = .int .i64 (k : Int)) ∧ (listed.getD 3 false = true → u42 = .int .i64 ((k : Int) + 1)) ∧ (listed.getD 4 false = true → u43 = .slice (some ⟨lb, lo, none⟩) ln lc) ∧ (listed.getD 5 false = true → u44 = .int .i64 (k : Int)) ∧ (listed.getD 6 false = true → u45 = .pointer (some ⟨lb, lo + k, none⟩)) ∧ (listed.getD 7 false = true → u46 = .string s) ∧ (listed.getD 9 false = true → u38 = .tuple #[.agg #[va, vb], .int .i64 (apN S L t (partsP ((k : Int) + 1) s)), .bool (apB S L t (partsP ((k : Int) + 1) s))]) ∧ (listed.getD 10 false = true → u48 = .agg #[va, vb]) ∧ (listed.getD 11 false = true → u49 = .int .i64 (apN S L t (partsP ((k : Int) + 1) s))) ∧ (listed.getD 12 false = true → u50 = .bool (apB S L t (partsP ((k : Int) + 1) s))) ∧ (listed.getD 15 false = true → u10 = .int .i64 (apN S L t (partsP ((k : Int) + 1) s))) ∧ (listed.getD 16 false = true → u11 = .bool (apB S L t (partsP ((k : Int) + 1) s))) ∧ Xf w2.heap.size S L t k s (listed.getD 8 false) (listed.getD 13 false) (listed.getD 14 false) u9 u47 va vb wq ∧ Below w2.heap.size w2 wq) ?hpre ?hstep ?hend _ _ _ _ rfl (Nat.le_refl 17) (fun j oj _ hl => absurd hl (by simp [Array.getD])) ?start
  case hpre => exact pre_of (by kernel_rfl)
  case start =>
    exact ⟨s9, s10, s11, s38, s39, s40, s41, s42, s43, s44, s45, s46, s47, s48, s49, s50, undef, undef, rfl, fun h => absurd (show false = true from h) Bool.false_ne_true, fun h => absurd (show false = true from h) Bool.false_ne_true, fun h => absurd (show false = true from h) Bool.false_ne_true, fun h => absurd (show false = true from h) Bool.false_ne_true, fun h => absurd (show false = true from h) Bool.false_ne_true, fun h => absurd (show false = true from h) Bool.false_ne_true, fun h => absurd (show false = true from h) Bool.false_ne_true, fun h => absurd (show false = true from h) Bool.false_ne_true, fun h => absurd (show false = true from h) Bool.false_ne_true, fun h => absurd (show false = true from h) Bool.false_ne_true, fun h => absurd (show false = true from h) Bool.false_ne_true, fun h => absurd (show false = true from h) Bool.false_ne_true, fun h => absurd (show false = true from h) Bool.false_ne_true, fun h => absurd (show false = true from h) Bool.false_ne_true, ⟨fun h => absurd (show false = true from h) Bool.false_ne_true, fun h => absurd (show false = true from h) Bool.false_ne_true⟩, (Below.refl _ _).drew⟩
  case hend =>
    rintro listed ac wq hall ⟨u9, u10, u11, u38, u39, u40, u41, u42, u43, u44, u45, u46, u47, u48, u49, u50, va, vb, rfl, f0, f1, f2, f3, f4, f5, f6, f7, f9, f10, f11, f12, f15, f16, hX, hB⟩
    rw [hall 8 (show 8 < 17 by decide)] at hX
    rw [hall 13 (show 13 < 17 by decide)] at hX
    rw [hall 14 (show 14 < 17 by decide)] at hX
    obtain ⟨x8, x13⟩ := hX
    obtain ⟨e1, e2, e3⟩ := x8 rfl
    obtain ⟨Bx, rfl, e4, e5⟩ := x13 rfl
    obtain rfl := f15 (hall 15 (show 15 < 17 by decide))
    obtain rfl := f16 (hall 16 (show 16 < 17 by decide))
    exact HQ.out _ _ _ _ _ _ _ _ _ _ _ _ _ Bx va vb wq e4 e5 e2 e3 hB
  case hstep =>
    rintro listed ac wq i o hsz ⟨u9, u10, u11, u38, u39, u40, u41, u42, u43, u44, u45, u46, u47, u48, u49, u50, va, vb, rfl, f0, f1, f2, f3, f4, f5, f6, f7, f9, f10, f11, f12, f15, f16, hX, hB⟩ ho hall hun hcl
    obtain ⟨b0, b1, b2, b3, b4, b5, b6, b7, b8, b9, b10, b11, b12, b13, b14, b15, b16, rfl⟩ := seventeen hsz
    have hin : i < 17 := (Array.getElem?_eq_some_iff.1 ho).1
    have N1 := N.below hB N.lt
    have c0 := N1.cell (i := 0) rfl
    have c1 := N1.cell (i := 1) rfl
    have cs := (hB.cell (p := ⟨lb, lo + k, none⟩) hlt).trans hc
    have V1 := hid (V.below (Nat.le_refl _) hB)
    have hbs := hB.size
    have k9_8 : b9 = true → b8 = true := fun h => hcl 9 _ rfl h ⟨8, .data⟩ (by simp) rfl
    have k10_9 : b10 = true → b9 = true := fun h => hcl 10 _ rfl h ⟨9, .data⟩ (by simp) rfl
    have k14_10 : b14 = true → b10 = true := fun h => hcl 14 _ rfl h ⟨10, .data⟩ (by simp) rfl
    have k14_13 : b14 = true → b13 = true := fun h => hcl 14 _ rfl h ⟨13, .data⟩ (by simp) rfl
    clear hcl
    obtain rfl | rfl | rfl | rfl | rfl | rfl | rfl | rfl | rfl | rfl | rfl | rfl | rfl | rfl | rfl | rfl | rfl : i = 0 ∨ i = 1 ∨ i = 2 ∨ i = 3 ∨ i = 4 ∨ i = 5 ∨ i = 6 ∨ i = 7 ∨ i = 8 ∨ i = 9 ∨ i = 10 ∨ i = 11 ∨ i = 12 ∨ i = 13 ∨ i = 14 ∨ i = 15 ∨ i = 16 := by omega
    · cases ho
      obtain rfl : b0 = false := hun
      replace f0 := hid f0
      replace f1 := hid f1
      replace f2 := hid f2
      replace f3 := hid f3
      replace f4 := hid f4
      replace f5 := hid f5
      replace f6 := hid f6
      replace f7 := hid f7
      replace f9 := hid f9
      replace f10 := hid f10
      replace f11 := hid f11
      replace f12 := hid f12
      replace f15 := hid f15
      replace f16 := hid f16
      replace hX := hid hX
      replace hB := hid hB
      clear k9_8 k10_9 k14_10 k14_13
      refine wpOp_step rfl (fun K hK => ?_)
      go_simp
      exact hK _ _ ⟨u9, u10, u11, u38, .agg #[va0, vb0], u40, u41, u42, u43, u44, u45, u46, u47, u48, u49, u50, va, vb, rfl, fun _ => rfl, f1.out, f2.out, f3.out, f4.out, f5.out, f6.out, f7.out, f9.out, f10.out, f11.out, f12.out, f15.out, f16.out, hX.out, hB.out⟩
    · cases ho
      obtain rfl : b1 = false := hun
      replace f0 := hid f0
      replace f1 := hid f1
      replace f2 := hid f2
      replace f3 := hid f3
      replace f4 := hid f4
      replace f5 := hid f5
      replace f6 := hid f6
      replace f7 := hid f7
      replace f9 := hid f9
      replace f10 := hid f10
      replace f11 := hid f11
      replace f12 := hid f12
      replace f15 := hid f15
      replace f16 := hid f16
      replace hX := hid hX
      replace hB := hid hB
      clear k9_8 k10_9 k14_10 k14_13
      refine wpOp_step rfl (fun K hK => ?_)
      go_simp
      exact hK _ _ ⟨u9, u10, u11, u38, u39, .int .i64 t, u41, u42, u43, u44, u45, u46, u47, u48, u49, u50, va, vb, rfl, f0.out, fun _ => rfl, f2.out, f3.out, f4.out, f5.out, f6.out, f7.out, f9.out, f10.out, f11.out, f12.out, f15.out, f16.out, hX.out, hB.out⟩
    · cases ho
      obtain rfl : b2 = false := hun
      replace f0 := hid f0
      replace f1 := hid f1
      replace f2 := hid f2
      replace f3 := hid f3
      replace f4 := hid f4
      replace f5 := hid f5
      replace f6 := hid f6
      replace f7 := hid f7
      replace f9 := hid f9
      replace f10 := hid f10
      replace f11 := hid f11
      replace f12 := hid f12
      replace f15 := hid f15
      replace f16 := hid f16
      replace hX := hid hX
      replace hB := hid hB
      clear k9_8 k10_9 k14_10 k14_13
      refine wpOp_step rfl (fun K hK => ?_)
      go_simp
      exact hK _ _ ⟨u9, u10, u11, u38, u39, u40, .int .i64 (k : Int), u42, u43, u44, u45, u46, u47, u48, u49, u50, va, vb, rfl, f0.out, f1.out, fun _ => rfl, f3.out, f4.out, f5.out, f6.out, f7.out, f9.out, f10.out, f11.out, f12.out, f15.out, f16.out, hX.out, hB.out⟩
    · cases ho
      obtain rfl : b3 = false := hun
      obtain rfl : u41 = .int .i64 (k : Int) := f2 (hall ⟨2, .data⟩ (by simp) rfl)
      replace f0 := hid f0
      replace f1 := hid f1
      replace f2 := hid f2
      replace f3 := hid f3
      replace f4 := hid f4
      replace f5 := hid f5
      replace f6 := hid f6
      replace f7 := hid f7
      replace f9 := hid f9
      replace f10 := hid f10
      replace f11 := hid f11
      replace f12 := hid f12
      replace f15 := hid f15
      replace f16 := hid f16
      replace hX := hid hX
      replace hB := hid hB
      clear k9_8 k10_9 k14_10 k14_13
      refine wpOp_step rfl (fun K hK => ?_)
      go_simp
      exact hK _ _ ⟨u9, u10, u11, u38, u39, u40, .int .i64 (k : Int), .int .i64 ((k : Int) + 1), u43, u44, u45, u46, u47, u48, u49, u50, va, vb, rfl, f0.out, f1.out, f2.out, fun _ => rfl, f4.out, f5.out, f6.out, f7.out, f9.out, f10.out, f11.out, f12.out, f15.out, f16.out, hX.out, hB.out⟩
    · cases ho
      obtain rfl : b4 = false := hun
      replace f0 := hid f0
      replace f1 := hid f1
      replace f2 := hid f2
      replace f3 := hid f3
      replace f4 := hid f4
      replace f5 := hid f5
      replace f6 := hid f6
      replace f7 := hid f7
      replace f9 := hid f9
      replace f10 := hid f10
      replace f11 := hid f11
      replace f12 := hid f12
      replace f15 := hid f15
      replace f16 := hid f16
      replace hX := hid hX
      replace hB := hid hB
      clear k9_8 k10_9 k14_10 k14_13
      refine wpOp_step rfl (fun K hK => ?_)
      go_simp
      exact hK _ _ ⟨u9, u10, u11, u38, u39, u40, u41, u42, .slice (some ⟨lb, lo, none⟩) ln lc, u44, u45, u46, u47, u48, u49, u50, va, vb, rfl, f0.out, f1.out, f2.out, f3.out, fun _ => rfl, f5.out, f6.out, f7.out, f9.out, f10.out, f11.out, f12.out, f15.out, f16.out, hX.out, hB.out⟩
    · cases ho
      obtain rfl : b5 = false := hun
      replace f0 := hid f0
      replace f1 := hid f1
      replace f2 := hid f2
      replace f3 := hid f3
      replace f4 := hid f4
      replace f5 := hid f5
      replace f6 := hid f6
      replace f7 := hid f7
      replace f9 := hid f9
      replace f10 := hid f10
      replace f11 := hid f11
      replace f12 := hid f12
      replace f15 := hid f15
      replace f16 := hid f16
      replace hX := hid hX
      replace hB := hid hB
      clear k9_8 k10_9 k14_10 k14_13
      refine wpOp_step rfl (fun K hK => ?_)
      go_simp
      exact hK _ _ ⟨u9, u10, u11, u38, u39, u40, u41, u42, u43, .int .i64 (k : Int), u45, u46, u47, u48, u49, u50, va, vb, rfl, f0.out, f1.out, f2.out, f3.out, f4.out, fun _ => rfl, f6.out, f7.out, f9.out, f10.out, f11.out, f12.out, f15.out, f16.out, hX.out, hB.out⟩
    · cases ho
      obtain rfl : b6 = false := hun
      obtain rfl : u43 = .slice (some ⟨lb, lo, none⟩) ln lc := f4 (hall ⟨4, .data⟩ (by simp) rfl)
      obtain rfl : u44 = .int .i64 (k : Int) := f5 (hall ⟨5, .data⟩ (by simp) rfl)
      replace f0 := hid f0
      replace f1 := hid f1
      replace f2 := hid f2
      replace f3 := hid f3
      replace f4 := hid f4
      replace f5 := hid f5
      replace f6 := hid f6
      replace f7 := hid f7
      replace f9 := hid f9
      replace f10 := hid f10
      replace f11 := hid f11
      replace f12 := hid f12
      replace f15 := hid f15
      replace f16 := hid f16
      replace hX := hid hX
      replace hB := hid hB
      clear k9_8 k10_9 k14_10 k14_13
      refine wpOp_step rfl (fun K hK => ?_)
      go_simp
      exact hK _ _ ⟨u9, u10, u11, u38, u39, u40, u41, u42, .slice (some ⟨lb, lo, none⟩) ln lc, .int .i64 (k : Int), .pointer (some ⟨lb, lo + k, none⟩), u46, u47, u48, u49, u50, va, vb, rfl, f0.out, f1.out, f2.out, f3.out, f4.out, f5.out, fun _ => rfl, f7.out, f9.out, f10.out, f11.out, f12.out, f15.out, f16.out, hX.out, hB.out⟩
    · cases ho
      obtain rfl : b7 = false := hun
      obtain rfl : u45 = .pointer (some ⟨lb, lo + k, none⟩) := f6 (hall ⟨6, .data⟩ (by simp) rfl)
      replace f0 := hid f0
      replace f1 := hid f1
      replace f2 := hid f2
      replace f3 := hid f3
      replace f4 := hid f4
      replace f5 := hid f5
      replace f6 := hid f6
      replace f7 := hid f7
      replace f9 := hid f9
      replace f10 := hid f10
      replace f11 := hid f11
      replace f12 := hid f12
      replace f15 := hid f15
      replace f16 := hid f16
      replace hX := hid hX
      replace hB := hid hB
      clear k9_8 k10_9 k14_10 k14_13
      refine wpOp_step rfl (fun K hK => ?_)
      go_simp
      exact hK _ _ ⟨u9, u10, u11, u38, u39, u40, u41, u42, u43, u44, .pointer (some ⟨lb, lo + k, none⟩), .string s, u47, u48, u49, u50, va, vb, rfl, f0.out, f1.out, f2.out, f3.out, f4.out, f5.out, f6.out, fun _ => rfl, f9.out, f10.out, f11.out, f12.out, f15.out, f16.out, hX.out, hB.out⟩
    · cases ho
      obtain rfl : b8 = false := hun
      obtain rfl : b9 = false := by cases b9 with
        | false => rfl
        | true => exact absurd (k9_8 rfl) Bool.false_ne_true
      obtain rfl : b10 = false := by cases b10 with
        | false => rfl
        | true => exact absurd (k10_9 rfl) Bool.false_ne_true
      obtain rfl : b14 = false := by cases b14 with
        | false => rfl
        | true => exact absurd (k14_10 rfl) Bool.false_ne_true
      obtain rfl : u39 = .agg #[va0, vb0] := f0 (hall ⟨0, .data⟩ (by simp) rfl)
      obtain rfl : u40 = .int .i64 t := f1 (hall ⟨1, .data⟩ (by simp) rfl)
      obtain rfl : u42 = .int .i64 ((k : Int) + 1) := f3 (hall ⟨3, .data⟩ (by simp) rfl)
      obtain rfl : u46 = .string s := f7 (hall ⟨7, .data⟩ (by simp) rfl)
      replace f0 := hid f0
      replace f1 := hid f1
      replace f2 := hid f2
      replace f3 := hid f3
      replace f4 := hid f4
      replace f5 := hid f5
      replace f6 := hid f6
      replace f7 := hid f7
      replace f9 := hid f9
      replace f10 := hid f10
      replace f11 := hid f11
      replace f12 := hid f12
      replace f15 := hid f15
      replace f16 := hid f16
      replace hX := hid hX
      replace hB := hid hB
      clear k9_8 k10_9 k14_10 k14_13
      refine wpOp_step rfl (fun K hK => ?_)
      go_simp
      refine (impl_append _ S L t _ s wq h1 h2 hs V1.out).mono ?_
      rintro e w3 ⟨v3, rfl, ⟨va3, vb3, rfl, ho1, ho2⟩, hb3⟩
      obtain ⟨_, x13⟩ := hX.out.below hb3
      refine hK _ _ ⟨u9, u10, u11, u38, .agg #[va0, vb0], .int .i64 t, u41, .int .i64 ((k : Int) + 1), u43, u44, u45, .string s, .tuple #[.agg #[va3, vb3], .int .i64 (apN S L t (partsP ((k : Int) + 1) s)), .bool (apB S L t (partsP ((k : Int) + 1) s))], u48, u49, u50, va3, vb3, rfl, f0.out, f1.out, f2.out, f3.out, f4.out, f5.out, f6.out, f7.out, fun h => absurd (show false = true from h) Bool.false_ne_true, fun h => absurd (show false = true from h) Bool.false_ne_true, f11.out, f12.out, f15.out, f16.out, ⟨fun _ => ⟨rfl, ho1.mono hbs, ho2.mono hbs⟩, fun e => ?_⟩, hB.out.trans (hb3.mono hbs)⟩
      exact x13 e
    · cases ho
      obtain rfl : b9 = false := hun
      obtain rfl : b8 = true := (hall ⟨8, .data⟩ (by simp) rfl)
      obtain rfl : u47 = .tuple #[.agg #[va, vb], .int .i64 (apN S L t (partsP ((k : Int) + 1) s)), .bool (apB S L t (partsP ((k : Int) + 1) s))] := (hX.1 rfl).1
      replace f0 := hid f0
      replace f1 := hid f1
      replace f2 := hid f2
      replace f3 := hid f3
      replace f4 := hid f4
      replace f5 := hid f5
      replace f6 := hid f6
      replace f7 := hid f7
      replace f9 := hid f9
      replace f10 := hid f10
      replace f11 := hid f11
      replace f12 := hid f12
      replace f15 := hid f15
      replace f16 := hid f16
      replace hX := hid hX
      replace hB := hid hB
      clear k9_8 k10_9 k14_10 k14_13
      refine wpOp_step rfl (fun K hK => ?_)
      go_simp
      exact hK _ _ ⟨u9, u10, u11, .tuple #[.agg #[va, vb], .int .i64 (apN S L t (partsP ((k : Int) + 1) s)), .bool (apB S L t (partsP ((k : Int) + 1) s))], u39, u40, u41, u42, u43, u44, u45, u46, .tuple #[.agg #[va, vb], .int .i64 (apN S L t (partsP ((k : Int) + 1) s)), .bool (apB S L t (partsP ((k : Int) + 1) s))], u48, u49, u50, va, vb, rfl, f0.out, f1.out, f2.out, f3.out, f4.out, f5.out, f6.out, f7.out, fun _ => rfl, f10.out, f11.out, f12.out, f15.out, f16.out, hX.out, hB.out⟩
    · cases ho
      obtain rfl : b10 = false := hun
      obtain rfl : u38 = .tuple #[.agg #[va, vb], .int .i64 (apN S L t (partsP ((k : Int) + 1) s)), .bool (apB S L t (partsP ((k : Int) + 1) s))] := f9 (hall ⟨9, .data⟩ (by simp) rfl)
      replace f0 := hid f0
      replace f1 := hid f1
      replace f2 := hid f2
      replace f3 := hid f3
      replace f4 := hid f4
      replace f5 := hid f5
      replace f6 := hid f6
      replace f7 := hid f7
      replace f9 := hid f9
      replace f10 := hid f10
      replace f11 := hid f11
      replace f12 := hid f12
      replace f15 := hid f15
      replace f16 := hid f16
      replace hX := hid hX
      replace hB := hid hB
      clear k9_8 k10_9 k14_10 k14_13
      refine wpOp_step rfl (fun K hK => ?_)
      go_simp
      exact hK _ _ ⟨u9, u10, u11, .tuple #[.agg #[va, vb], .int .i64 (apN S L t (partsP ((k : Int) + 1) s)), .bool (apB S L t (partsP ((k : Int) + 1) s))], u39, u40, u41, u42, u43, u44, u45, u46, u47, .agg #[va, vb], u49, u50, va, vb, rfl, f0.out, f1.out, f2.out, f3.out, f4.out, f5.out, f6.out, f7.out, f9.out, fun _ => rfl, f11.out, f12.out, f15.out, f16.out, hX.out, hB.out⟩
    · cases ho
      obtain rfl : b11 = false := hun
      obtain rfl : u38 = .tuple #[.agg #[va, vb], .int .i64 (apN S L t (partsP ((k : Int) + 1) s)), .bool (apB S L t (partsP ((k : Int) + 1) s))] := f9 (hall ⟨9, .data⟩ (by simp) rfl)
      replace f0 := hid f0
      replace f1 := hid f1
      replace f2 := hid f2
      replace f3 := hid f3
      replace f4 := hid f4
      replace f5 := hid f5
      replace f6 := hid f6
      replace f7 := hid f7
      replace f9 := hid f9
      replace f10 := hid f10
      replace f11 := hid f11
      replace f12 := hid f12
      replace f15 := hid f15
      replace f16 := hid f16
      replace hX := hid hX
      replace hB := hid hB
      clear k9_8 k10_9 k14_10 k14_13
      refine wpOp_step rfl (fun K hK => ?_)
      go_simp
      exact hK _ _ ⟨u9, u10, u11, .tuple #[.agg #[va, vb], .int .i64 (apN S L t (partsP ((k : Int) + 1) s)), .bool (apB S L t (partsP ((k : Int) + 1) s))], u39, u40, u41, u42, u43, u44, u45, u46, u47, u48, .int .i64 (apN S L t (partsP ((k : Int) + 1) s)), u50, va, vb, rfl, f0.out, f1.out, f2.out, f3.out, f4.out, f5.out, f6.out, f7.out, f9.out, f10.out, fun _ => rfl, f12.out, f15.out, f16.out, hX.out, hB.out⟩
    · cases ho
      obtain rfl : b12 = false := hun
      obtain rfl : u38 = .tuple #[.agg #[va, vb], .int .i64 (apN S L t (partsP ((k : Int) + 1) s)), .bool (apB S L t (partsP ((k : Int) + 1) s))] := f9 (hall ⟨9, .data⟩ (by simp) rfl)
      replace f0 := hid f0
      replace f1 := hid f1
      replace f2 := hid f2
      replace f3 := hid f3
      replace f4 := hid f4
      replace f5 := hid f5
      replace f6 := hid f6
      replace f7 := hid f7
      replace f9 := hid f9
      replace f10 := hid f10
      replace f11 := hid f11
      replace f12 := hid f12
      replace f15 := hid f15
      replace f16 := hid f16
      replace hX := hid hX
      replace hB := hid hB
      clear k9_8 k10_9 k14_10 k14_13
      refine wpOp_step rfl (fun K hK => ?_)
      go_simp
      exact hK _ _ ⟨u9, u10, u11, .tuple #[.agg #[va, vb], .int .i64 (apN S L t (partsP ((k : Int) + 1) s)), .bool (apB S L t (partsP ((k : Int) + 1) s))], u39, u40, u41, u42, u43, u44, u45, u46, u47, u48, u49, .bool (apB S L t (partsP ((k : Int) + 1) s)), va, vb, rfl, f0.out, f1.out, f2.out, f3.out, f4.out, f5.out, f6.out, f7.out, f9.out, f10.out, f11.out, fun _ => rfl, f15.out, f16.out, hX.out, hB.out⟩
    · cases ho
      obtain rfl : b13 = false := hun
      obtain rfl : b14 = false := by cases b14 with
        | false => rfl
        | true => exact absurd (k14_13 rfl) Bool.false_ne_true
      replace f0 := hid f0
      replace f1 := hid f1
      replace f2 := hid f2
      replace f3 := hid f3
      replace f4 := hid f4
      replace f5 := hid f5
      replace f6 := hid f6
      replace f7 := hid f7
      replace f9 := hid f9
      replace f10 := hid f10
      replace f11 := hid f11
      replace f12 := hid f12
      replace f15 := hid f15
      replace f16 := hid f16
      replace hX := hid hX
      replace hB := hid hB
      clear k9_8 k10_9 k14_10 k14_13
      refine wpOp_step rfl (fun K hK => ?_)
      go_simp
      have hb3 := (Below.refl wq.heap.size wq).alloc (Nat.le_refl _) (.cells #[.slice none 0 0, .slice none 0 0] 27)
      obtain ⟨x8, _⟩ := hX.out.below hb3
      exact hK _ _ ⟨.pointer (some ⟨wq.heap.size, 0, none⟩), u10, u11, u38, u39, u40, u41, u42, u43, u44, u45, u46, u47, u48, u49, u50, va, vb, rfl, f0.out, f1.out, f2.out, f3.out, f4.out, f5.out, f6.out, f7.out, f9.out, f10.out, f11.out, f12.out, f15.out, f16.out, ⟨x8, fun _ => ⟨_, rfl, hbs, Blk.new wq [.slice none 0 0, .slice none 0 0] 27⟩⟩, hB.out.trans (hb3.mono hbs)⟩
    · cases ho
      obtain rfl : b14 = false := hun
      obtain rfl : b13 = true := (hall ⟨13, .data⟩ (by simp) rfl)
      obtain rfl : b8 = true := (hall ⟨8, .chain⟩ (by simp) rfl)
      obtain rfl : u48 = .agg #[va, vb] := f10 (hall ⟨10, .data⟩ (by simp) rfl)
      obtain ⟨x8, x13⟩ := hX
      obtain ⟨Bx, rfl, hBx, bX⟩ := x13 rfl
      obtain ⟨rfl, e2, e3⟩ := x8 rfl
      obtain ⟨xa, xc, rfl, _, _⟩ := e2.shape
      obtain ⟨ya, yc, rfl, _, _⟩ := e3.shape
      replace bX : Blk wq Bx [.slice none 0 0, .slice none 0 0] 27 := bX
      have q0 := bX.cell (i := 0) rfl
      have q1 := bX.cell (i := 1) rfl
      have l0 := bX.free 0
      have l1 := bX.free 1
      have X1 := bX.set 0 (.slice xa S.length xc)
      have q3 := X1.cell (i := 1) rfl
      have l3 := X1.free 1
      have X2 := hid (X1.set 1 (.slice ya (apL S L t (partsP ((k : Int) + 1) s)).length yc))
      have G2 := hid ((e2.setCell_other (a := ⟨Bx, 0, none⟩) (fun e => e2.tag bX (by decide) e.symm) (.slice xa S.length xc)).setCell_other (a := ⟨Bx, 1, none⟩) (fun e => e2.tag bX (by decide) e.symm) (.slice ya (apL S L t (partsP ((k : Int) + 1) s)).length yc))
      have G3 := hid ((e3.setCell_other (a := ⟨Bx, 0, none⟩) (fun e => e3.tag bX (by decide) e.symm) (.slice xa S.length xc)).setCell_other (a := ⟨Bx, 1, none⟩) (fun e => e3.tag bX (by decide) e.symm) (.slice ya (apL S L t (partsP ((k : Int) + 1) s)).length yc))
      have B3 := hid ((hB.setCell (p := ⟨Bx, 0, none⟩) hBx (.slice xa S.length xc)).setCell (p := ⟨Bx, 1, none⟩) hBx (.slice ya (apL S L t (partsP ((k : Int) + 1) s)).length yc))
      clear x8 x13 X1 e2 e3 bX
      replace f0 := hid f0
      replace f1 := hid f1
      replace f2 := hid f2
      replace f3 := hid f3
      replace f4 := hid f4
      replace f5 := hid f5
      replace f6 := hid f6
      replace f7 := hid f7
      replace f9 := hid f9
      replace f10 := hid f10
      replace f11 := hid f11
      replace f12 := hid f12
      replace f15 := hid f15
      replace f16 := hid f16
      replace hB := hid hB
      clear k9_8 k10_9 k14_10 k14_13
      refine wpOp_step rfl (fun K hK => ?_)
      go_simp
      exact hK _ _ ⟨.pointer (some ⟨Bx, 0, none⟩), u10, u11, u38, u39, u40, u41, u42, u43, u44, u45, u46, .tuple #[.agg #[.slice xa S.length xc, .slice ya (apL S L t (partsP ((k : Int) + 1) s)).length yc], .int .i64 (apN S L t (partsP ((k : Int) + 1) s)), .bool (apB S L t (partsP ((k : Int) + 1) s))], .agg #[.slice xa S.length xc, .slice ya (apL S L t (partsP ((k : Int) + 1) s)).length yc], u49, u50, .slice xa S.length xc, .slice ya (apL S L t (partsP ((k : Int) + 1) s)).length yc, rfl, f0.out, f1.out, f2.out, f3.out, f4.out, f5.out, f6.out, f7.out, f9.out, f10.out, f11.out, f12.out, f15.out, f16.out, ⟨fun _ => ⟨rfl, G2.out, G3.out⟩, fun _ => ⟨Bx, rfl, hBx, X2.out⟩⟩, B3.out⟩
    · cases ho
      obtain rfl : b15 = false := hun
      obtain rfl : u49 = .int .i64 (apN S L t (partsP ((k : Int) + 1) s)) := f11 (hall ⟨11, .data⟩ (by simp) rfl)
      replace f0 := hid f0
      replace f1 := hid f1
      replace f2 := hid f2
      replace f3 := hid f3
      replace f4 := hid f4
      replace f5 := hid f5
      replace f6 := hid f6
      replace f7 := hid f7
      replace f9 := hid f9
      replace f10 := hid f10
      replace f11 := hid f11
      replace f12 := hid f12
      replace f15 := hid f15
      replace f16 := hid f16
      replace hX := hid hX
      replace hB := hid hB
      clear k9_8 k10_9 k14_10 k14_13
      refine wpOp_step rfl (fun K hK => ?_)
      go_simp
      exact hK _ _ ⟨u9, .int .i64 (apN S L t (partsP ((k : Int) + 1) s)), u11, u38, u39, u40, u41, u42, u43, u44, u45, u46, u47, u48, .int .i64 (apN S L t (partsP ((k : Int) + 1) s)), u50, va, vb, rfl, f0.out, f1.out, f2.out, f3.out, f4.out, f5.out, f6.out, f7.out, f9.out, f10.out, f11.out, f12.out, fun _ => rfl, f16.out, hX.out, hB.out⟩
    · cases ho
      obtain rfl : b16 = false := hun
      obtain rfl : u50 = .bool (apB S L t (partsP ((k : Int) + 1) s)) := f12 (hall ⟨12, .data⟩ (by simp) rfl)
      replace f0 := hid f0
      replace f1 := hid f1
      replace f2 := hid f2
      replace f3 := hid f3
      replace f4 := hid f4
      replace f5 := hid f5
      replace f6 := hid f6
      replace f7 := hid f7
      replace f9 := hid f9
      replace f10 := hid f10
      replace f11 := hid f11
      replace f12 := hid f12
      replace f15 := hid f15
      replace f16 := hid f16
      replace hX := hid hX
      replace hB := hid hB
      clear k9_8 k10_9 k14_10 k14_13
      refine wpOp_step rfl (fun K hK => ?_)
      go_simp
      exact hK _ _ ⟨u9, u10, .bool (apB S L t (partsP ((k : Int) + 1) s)), u38, u39, u40, u41, u42, u43, u44, u45, u46, u47, u48, u49, .bool (apB S L t (partsP ((k : Int) + 1) s)), va, vb, rfl, f0.out, f1.out, f2.out, f3.out, f4.out, f5.out, f6.out, f7.out, f9.out, f10.out, f11.out, f12.out, f15.out, fun _ => rfl, hX.out, hB.out⟩
end Go.Proofs.Ytphhgfgmlfdkiaa
