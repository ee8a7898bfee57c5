/- Contracts of ModelStart, of the program and of the specification. -/
import Derived.Test.YtimafabbepgifaaRp
import Derived.Test.YtimafabbepgifaaWf
namespace Go.Proofs.Ytimafabbepgifaa
open Go.RowKit
set_option linter.unusedVariables false

theorem own_ge' {w : World} {base : Nat} {e : TypeId} {k : IntKind} {a : Addr} {n c : Nat} {xs : List Int} (h : Own w base e k (.slice (some a) n c) xs) : base ≤ a.block := h.ge.1
/-- What ModelStart answers. -/
def msB (n : Int) : Bool := decide (0 ≤ n ∧ n ≤ 1200)
def msL (n : Int) : List Int := if 0 ≤ n ∧ n ≤ 1200 then List.replicate n.toNat 2048 else []

set_option maxRecDepth 100000 in
set_option maxHeartbeats 800000 in
theorem impl_modelStart (n : Int) (w : World) (h0 : -9223372036854775808 ≤ n) (h1 : n ≤ 9223372036854775807) :
    Calls Try.prog 8 #[.int .i64 n] w fun e w' => ∃ v, e = .returned (.tuple #[.agg #[v], .bool (msB n)]) ∧ Own w' w.heap.size 3 .i64 v (msL n) ∧ Below w.heap.size w w' := by
  unfold msB msL
  have B0 := hid ((Below.refl w.heap.size w).alloc (Nat.le_refl _) (.cells #[.slice none 0 0] 27))
  by_cases a1 : n < 0
  · rw [decide_eq_false (by omega), if_neg (by omega)]
    go_enter Try.func8, Try.ntmps8
    go_wp2_with fail
    refine bodyPost_ret (v := .tuple #[.agg #[.slice none 0 0], .bool false]) (by simp [results, Try.results8, go_sem]) rfl ?_
    exact ⟨_, rfl, Own.nil _ _ _ _ B0.out.size, B0.out⟩
  · by_cases a2 : 1200 < n
    · rw [decide_eq_false (by omega), if_neg (by omega)]
      go_enter Try.func8, Try.ntmps8
      go_wp2_with fail
      refine bodyPost_ret (v := .tuple #[.agg #[.slice none 0 0], .bool false]) (by simp [results, Try.results8, go_sem]) rfl ?_
      exact ⟨_, rfl, Own.nil _ _ _ _ B0.out.size, B0.out⟩
    · rw [decide_eq_true (by omega), if_pos (by omega)]
      obtain ⟨k, rfl⟩ := Int.eq_ofNat_of_zero_le (show 0 ≤ n by omega)
      have hk : k ≤ 1200 := by omega
      rw [Int.toNat_natCast]
      have HR := hid (fun g q hg => repeat_one g k 2048 q hk hg)
      obtain ⟨n1, n2, n3⟩ := new_two w [.slice none 0 0] [.int .i64 2048] 27 3
      have N1 := hid n1
      have N2 := hid n2
      have N3 := hid n3
      clear a1 a2 h0 h1 n1 n2 n3
      go_enter Try.func8, Try.ntmps8
      go_wp2_with fail
      refine (HR.out _ _ N2.out).mono ?_
      generalize (w.alloc (.cells #[.slice none 0 0] 27)).alloc (.cells #[.int .i64 2048] 3) = w0 at *
      rintro e w1 ⟨v, rfl, ho, hb⟩
      obtain ⟨ao, cap, rfl⟩ := ho.shape
      have M1 := hid (N1.out.below hb N1.out.lt)
      have M3 := hid (N3.out.trans (hb.mono N3.out.size))
      have HO : Hid (Own w1 (w.heap.size + 1) 3 .i64 _ _) := ho.lower (by have := N2.out.lt; omega)
      have r0 := M1.out.cell (i := 0) rfl
      have y0 := M1.out.free 0
      clear ho hb N1 N2 N3
      go_wp2_with fail
      refine bodyPost_ret (v := .tuple #[.agg #[.slice ao (List.replicate k (2048 : Int)).length cap], .bool true]) (by simp [results, Try.results8, go_sem, r0]) rfl ?_
      exact ⟨_, rfl, (HO.out.setCell_below (a := ⟨w.heap.size, 0, none⟩) (Nat.lt_succ_self _) _).lower (Nat.le_succ _), M3.out.setCell (p := ⟨w.heap.size, 0, none⟩) (Nat.le_refl _) _⟩

set_option maxHeartbeats 800000 in
theorem mark_model (base : Nat) (v : Value) (ys : List Int) (w : World) (hn : ys.length ≤ 1000000000) (hb0 : base ≤ w.heap.size) (ho : Own w base 3 .i64 v ys) :
    Calls Try.prog 23 #[.agg #[v], .int .i64 1] w fun e w' => e = .returned (.int .i64 ((ys.length : Int) + 1)) ∧ Own w' base 3 .i64 v (marks ys.length) ∧ Below base w w' ∧ ∀ b l t, Blk w b l t → (∀ (a : Addr) n c, v = .slice (some a) n c → a.block ≠ b) → Blk w' b l t := by
  obtain ⟨ao, cap, rfl⟩ := ho.shape
  have HM := hid (fun q ho => mark_any base (.slice ao ys.length cap) ys q hn ho)
  have B0 := hid ((Below.refl base w).alloc hb0 (.cells #[.slice ao ys.length cap] 27))
  have HO := hid (ho.alloc (.cells #[.slice ao ys.length cap] 27))
  have hge : Hid (∀ (a : Addr) n c, (Value.slice ao ys.length cap) = .slice (some a) n c → base ≤ a.block) := fun a n c h => by
    rw [h] at ho
    exact own_ge' ho
  clear ho
  generalize ys.length = L at *
  go_enter Try.func23, Try.ntmps23
  go_wp2_with fail
  refine (HM.out _ HO.out).mono ?_
  rintro e w1 ⟨rfl, ho1, ht1⟩
  have HO1 := hid ho1
  have HB1 := hid (B0.out.trans (ht1.below hge.out (Nat.le_trans hb0 (by simp))))
  have HK1 : Hid (∀ b l t, Blk w b l t → (∀ (a : Addr) n c, (Value.slice ao L cap) = .slice (some a) n c → a.block ≠ b) → Blk w1 b l t) := fun b l t hb hne => by
    have hb0 := hb.below ((Below.refl w.heap.size w).alloc (Nat.le_refl _) (.cells #[.slice ao L cap] 27)) hb.lt
    rcases ht1 with rfl | ⟨g, n, c, e, he⟩
    · exact hb0
    · exact hb0.ef he (fun h => hne _ _ _ e h.symm)
  clear ho1 ht1
  go_wp2_with fail
  go_ret
  exact ⟨rfl, HO1.out, HB1.out, HK1.out⟩
set_option maxHeartbeats 800000 in
theorem held_model (v : Value) (n : Nat) (w : World) (hn : n ≤ 1000000000) (h : Vw w v (marks n)) :
    Calls Try.prog 24 #[.agg #[v], .int .i64 1] w fun e w' => e = .returned (.int .i64 ((n : Int) + 1)) ∧ Below w.heap.size w w' := by
  have HH := hid (fun q hq => held_own v n q hn (h.below (Nat.le_refl _) hq))
  have B0 := hid ((Below.refl w.heap.size w).alloc (Nat.le_refl _) (.cells #[v] 27))
  obtain ⟨ao, cap, rfl, _, _⟩ := h
  have h0 : ¬ ((n : Int) + 1 < 0) := by omega
  generalize (marks n).length = L at *
  go_enter Try.func24, Try.ntmps24
  go_wp2_with fail
  refine (HH.out _ B0.out).mono ?_
  rintro e w1 ⟨rfl, rfl⟩
  go_wp2_with fail
  go_ret
  exact ⟨rfl, B0.out⟩

theorem msL_len (n : Int) : (msL n).length ≤ 1200 := by
  unfold msL
  split
  · simp
    omega
  · simp

end Go.Proofs.Ytimafabbepgifaa
