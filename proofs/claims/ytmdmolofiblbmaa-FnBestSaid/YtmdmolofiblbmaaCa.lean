/- slices.Concat of two slices. -/
import Derived.Test.YtmdmolofiblbmaaGa
namespace Go.Proofs.Ytmdmolofiblbmaa
open Go.RowKit
set_option linter.unusedVariables false

/-- 'append(out, ys...)', ys a slice that is read and has something. -/
theorem wpList_app {P : Program} {ops : Array Oper} {rest : List Oper} {o : Oper} {a : Act} {Q : Exit → Act → World → Prop} (w : World) (hgd : o.guard = none) (s x : Operand) (t : TypeId)
    (ho : o.op = .call { callee := .builtin .append, args := #[s, x], argTypes := #[t, t] })
    (base : Nat) (e : TypeId) (k : IntKind) (z : Int) (bytes : Nat) (ht : P.underlying t = some (.slice e)) (hinfo : (P.info? e).map (fun i => (i.zero, i.size, i.bytes)) = some (some (.int k z), 1, bytes))
    (v : Value) (xs : List Int) (hs : a.eval s = v) (hown : Own w base e k v xs) (yb : Nat) (y : Value) (ys : List Int) (hx : a.eval x = y) (hy : Own w yb e k y ys) (hpos : 0 < ys.length)
    (hlen : xs.length + ys.length < 1000000000000) (hbytes : bytes ≤ 8)
    (h : ∀ v' w', Own w' base e k v' (xs ++ ys) → Below base w w' → wpList P ops Q rest (a.put o.dst v') w') : wpList P ops Q (o :: rest) a w := by
  obtain ⟨i, hi, hz0, hz1, hz2⟩ := info_parts hinfo
  have hb := hown.1
  have hlt := hown.2.lt
  have hmul : (xs.length + ys.length) * bytes ≤ (xs.length + ys.length) * 8 := Nat.mul_le_mul_left _ hbytes
  rcases hy.2.2 with ⟨_, h0⟩ | ⟨g, cap, cur, rfl, _⟩
  · omega
  · refine wpList_append_own _ hgd s x t ho base e i (.int k z) 1 bytes ht hi hz0 hz1 hz2 rfl (by decide) v xs.length _ hs hown.2 ⟨g, 0, none⟩ ys.length cap (ys.map (Value.int k)) hx (by simp) ?_ ?_ (by unfold maxLen; omega) (by omega) hb ?_
    · intro j u hj
      have hjl : j < ys.length := by have := (List.getElem?_eq_some_iff.1 hj).1; simpa using this
      rw [hy.cell rfl j hjl]
      simp [hjl] at hj
      rw [← hj]
      simp [List.getD, hjl]
    · intro u hu
      simp at hu
      obtain ⟨q, _, rfl⟩ := hu
      rfl
    · intro v' w' hown' hgrow _
      refine h v' w' ⟨Nat.le_trans hb hgrow.size, by simpa using hown'⟩ ?_
      exact (Below.refl base w).grown hgrow hb (fun g hg => (hlt g hg).1)

set_option maxRecDepth 20000 in
set_option maxHeartbeats 1600000 in
theorem concat_any (B : Nat) (ga gb : Option Addr) (na nb ca cb : Nat) (A C : List Int) (w : World) (hA : na = A.length) (hC : nb = C.length) (ha : 0 < na) (hb : 0 < nb) (hn : na + nb ≤ 1000)
    (hB : Blk w B [.slice ga na ca, .slice gb nb cb] 24) (hoA : Own w 0 3 .i64 (.slice ga na ca) A) (hoC : Own w 0 3 .i64 (.slice gb nb cb) C) :
    Calls Try.prog 62 #[.slice (some ⟨B, 0, none⟩) 2 2] w fun e w' => ∃ v, e = .returned v ∧ Own w' w.heap.size 3 .i64 v (A ++ C) ∧ Below w.heap.size w w' := by
  have c0 := hB.cell (i := 0) rfl
  have c1 := hB.cell (i := 1) rfl
  have HB := hid hB
  have HA := hid hoA
  have HC := hid hoC
  have kA : (na : Int) ≤ 1000 := by omega
  have kC : (nb : Int) ≤ 1000 := by omega
  have HN := hid (show 0 < na ∧ 0 < nb ∧ na + nb ≤ 1000 from ⟨ha, hb, hn⟩)
  clear hB hoA hoC
  have HL := hid (show na = A.length ∧ nb = C.length from ⟨hA, hC⟩)
  clear hA hC
  have n2 : decide ((na : Int) < 0) = false := by simp
  have n3 : decide ((na : Int) + (nb : Int) < 0) = false := by simp; omega
  go_enter Try.func62, Try.ntmps62
  go_wp2_with fail
  go_loop [3, 11] (fun sz i => Hid ((i = .int .i64 0 ∧ sz = .int .i64 0) ∨ (i = .int .i64 1 ∧ sz = .int .i64 (na : Int)) ∨ (i = .int .i64 2 ∧ sz = .int .i64 ((na : Int) + (nb : Int))))) (fun _ i => 2 - (intOf i).toNat)
  case atStart => exact hid (.inl ⟨rfl, rfl⟩)
  case round =>
    rcases hrel.out with ⟨rfl, rfl⟩ | ⟨rfl, rfl⟩ | ⟨rfl, rfl⟩
    · clear hrel
      go_wp2_with fail
      go_round
      case rel => exact hid (.inr (.inl ⟨rfl, rfl⟩))
      case measure => simp [intOf]
    · clear hrel
      go_wp2_with fail
      go_round
      case rel => exact hid (.inr (.inr ⟨rfl, rfl⟩))
      case measure => simp [intOf]
    · clear hrel
      have HG := hid (grow_nil (na + nb) w (by omega) (by omega))
      have e1 : ((na + nb : Nat) : Int) = (na : Int) + (nb : Int) := by omega
      rw [e1] at HG
      go_wp2_with (first | (go_at_call 70; refine HG.out.mono ?_; rintro e w2 ⟨v2, rfl, ho2, hb2⟩) | fail)
      have HQ : Hid (∀ wr, Below w.heap.size w wr → Blk wr B [.slice ga na ca, .slice gb nb cb] 24 ∧ Own wr 0 3 .i64 (.slice ga na ca) A ∧ Own wr 0 3 .i64 (.slice gb nb cb) C) := hid (fun wr h => ⟨HB.out.below h HB.out.lt, HA.out.below h, HC.out.below h⟩)
      have H2 := hid (show Own w2 w.heap.size 3 .i64 v2 [] ∧ Below w.heap.size w w2 from ⟨ho2, hb2⟩)
      clear ho2 hb2 c0 c1 HG n2 n3
      go_loopw [6, 27] (fun v i wr => Hid (((i = .int .i64 0 ∧ Own wr w.heap.size 3 .i64 v []) ∨ (i = .int .i64 1 ∧ Own wr w.heap.size 3 .i64 v A) ∨ (i = .int .i64 2 ∧ Own wr w.heap.size 3 .i64 v (A ++ C))) ∧ Below w.heap.size w wr)) (fun _ i _ => 2 - (intOf i).toNat)
      case atStart => exact hid ⟨.inl ⟨rfl, H2.out.1⟩, H2.out.2⟩
      case round =>
        obtain ⟨hc, hb⟩ := hrel.out
        obtain ⟨q0, q1, q2⟩ := HQ.out _ hb
        have c0 := q0.cell (i := 0) rfl
        have c1 := q0.cell (i := 1) rfl
        have HOA := hid q1
        have HOC := hid q2
        have HBW := hid hb
        clear q0 q1 q2 hb
        rcases hc with ⟨rfl, ho⟩ | ⟨rfl, ho⟩ | ⟨rfl, ho⟩
        · have HO := hid ho
          clear ho hrel
          go_wp2_with (first | (refine wpList_app _ rfl (.tmp 31) (.tmp 32) 24 rfl w.heap.size 3 .i64 0 8 Try.underlying24 Try.info3 _ [] (by rfl) HO.out 0 (.slice ga na ca) A (by rfl) HOA.out (by have := HN.out; have := HL.out; omega) (by have := HN.out; have := HL.out; simp; omega) (by decide) ?_; rintro v3 w3 ho3 hb3; have H3 := hid (show Own w3 w.heap.size 3 .i64 v3 A ∧ Below w.heap.size w w3 from ⟨by simpa using ho3, HBW.out.trans hb3⟩); clear ho3 hb3) | fail)
          go_roundw
          case rel => exact hid ⟨.inr (.inl ⟨rfl, H3.out.1⟩), H3.out.2⟩
          case measure => simp [intOf]
        · have HO := hid ho
          clear ho hrel
          go_wp2_with (first | (refine wpList_app _ rfl (.tmp 31) (.tmp 32) 24 rfl w.heap.size 3 .i64 0 8 Try.underlying24 Try.info3 _ A (by rfl) HO.out 0 (.slice gb nb cb) C (by rfl) HOC.out (by have := HN.out; have := HL.out; omega) (by have := HN.out; have := HL.out; omega) (by decide) ?_; rintro v3 w3 ho3 hb3; have H3 := hid (show Own w3 w.heap.size 3 .i64 v3 (A ++ C) ∧ Below w.heap.size w w3 from ⟨ho3, HBW.out.trans hb3⟩); clear ho3 hb3) | fail)
          go_roundw
          case rel => exact hid ⟨.inr (.inr ⟨rfl, H3.out.1⟩), H3.out.2⟩
          case measure => simp [intOf]
        · clear hrel
          go_wp2_with fail
          go_ret
          exact ⟨_, rfl, ho, HBW.out⟩
end Go.Proofs.Ytmdmolofiblbmaa
