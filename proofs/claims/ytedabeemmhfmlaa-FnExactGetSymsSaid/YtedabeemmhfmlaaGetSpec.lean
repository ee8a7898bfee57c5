/- The contract of GetSyms of the specification. -/
import Derived.Test.YtedabeemmhfmlaaGetS
namespace Go.Proofs.Ytedabeemmhfmlaa
open Go.RowKit Go.Maps
set_option linter.unusedVariables false

/-- The length of a slice. -/
def vlen : Value → Nat
  | .slice _ n _ => n
  | _ => 0
/-- The slice is a given empty one without room, or the call's own and holds xs. -/
def Own0 (w : World) (base b : Nat) (v : Value) (xs : List Int) : Prop := (v = .slice (some ⟨b, 0, none⟩) 0 0 ∧ xs = [] ∧ base ≤ w.heap.size) ∨ Own w base 3 .i64 v xs
theorem Own0.below {w w' : World} {base b : Nat} {v : Value} {xs : List Int} (h : Own0 w base b v xs) (hb : Below w.heap.size w w') : Own0 w' base b v xs := by
  rcases h with ⟨h1, h2, h3⟩ | h
  · exact .inl ⟨h1, h2, Nat.le_trans h3 hb.size⟩
  · exact .inr (h.below hb)
theorem Own0.shape {w : World} {base b : Nat} {v : Value} {xs : List Int} (h : Own0 w base b v xs) : ∃ ao cap, v = .slice ao xs.length cap := by
  rcases h with ⟨h1, h2, h3⟩ | h
  · subst h2; exact ⟨_, _, h1⟩
  · exact h.shape
/-- 'out = append(out, y)' for such a slice. -/
theorem wpList_push0 {P : Program} {ops : Array Oper} {rest : List Oper} {o : Oper} {a : Act} {Q : Exit → Act → World → Prop} (w : World) (hgd : o.guard = none) (s x : Operand) (t : TypeId)
    (ho : o.op = .call { callee := .builtin .append, args := #[s, x], argTypes := #[t, t] })
    (base b : Nat) (ht : P.underlying t = some (.slice 3)) (hinfo : (P.info? 3).map (fun i => (i.zero, i.size, i.bytes)) = some (some (.int .i64 0), 1, 8))
    (v : Value) (xs : List Int) (hs : a.eval s = v) (hown : Own0 w base b v xs) (y : Int) (hx : a.eval x = .slice (some ⟨w.heap.size, 0, none⟩) 1 1)
    (hlen : xs.length < 1000000000000)
    (h : ∀ v' w', Own w' base 3 .i64 v' (xs ++ [y]) → Below base w w' → wpList P ops Q rest (a.put o.dst v') w') : wpList P ops Q (o :: rest) a (w.alloc (.cells #[.int .i64 y] 3)) := by
  rcases hown with ⟨h1, h2, h3⟩ | hown
  · subst h1
    subst h2
    obtain ⟨i, hi, hz0, hz1, hz2⟩ := info_parts hinfo
    refine wpList_append_grows _ hgd s x t ho 3 i (.int .i64 0) 1 8 ht hi hz0 hz1 hz2 rfl (by decide) (some ⟨b, 0, none⟩) 0 0 [] hs (fun e => by cases e) rfl (fun _ _ j u hj => by simp at hj) ⟨w.heap.size, 0, none⟩ 1 1 [.int .i64 y] hx rfl ?_ ?_ (by decide) (by decide) (by decide) ?_
    · intro j u hj
      match j, hj with
      | 0, hj => simp at hj; subst hj; simp [Addr.add]
    · intro u hu; simp at hu; subst hu; rfl
    · intro v' w' hown' hgrow
      have hsz : w.heap.size ≤ w'.heap.size := Nat.le_trans (by simp) hgrow.size
      refine h v' w' ⟨Nat.le_trans h3 hsz, ?_⟩ ?_
      · have h5 : Own w' (w.alloc (.cells #[.int .i64 y] 3)).heap.size 3 .i64 v' ([] ++ [y]) := ⟨hgrow.size, by simpa using hown'⟩
        exact (h5.mono (Nat.le_trans h3 (by simp))).2
      · exact ((Below.refl base w).alloc h3 _).grown hgrow (Nat.le_trans h3 (by simp)) (fun g hg => by cases hg)
  · exact wpList_push w hgd s x t ho base 3 .i64 0 8 ht hinfo v xs hs hown y hx hlen (by decide) h

set_option maxRecDepth 100000 in
set_option maxHeartbeats 4000000 in
theorem spec_getSyms (v : Value) (cs ss xs : List Int) (ao : Option Addr) (cap : Nat) (n : Int) (w : World) (h0 : cs.length ≤ 1048576) (h1 : ss.length ≤ 1048576) (h2 : xs.length ≤ 1048576) (hv : CV w v cs ss) (hx : View .i64 w ao xs.length xs) :
    Calls Try.prog 33 #[v, .slice ao xs.length cap, .int .i64 n] w fun e w' => ∃ v' R F, e = .returned (.tuple #[v', .bool F]) ∧ GetR cs ss xs n R F ∧ Own w' w.heap.size 3 .i64 v' R ∧ Below w.heap.size w w' := by
  obtain ⟨a0, c0, a1, c1, rfl, u0, u1⟩ := hv
  have HB0 := hid ((Below.refl w.heap.size w).alloc (Nat.le_refl _) (.cells #[.slice a0 cs.length c0, .slice a1 ss.length c1] 26))
  have HB := hid (HB0.out.alloc (show w.heap.size ≤ (w.alloc (.cells #[.slice a0 cs.length c0, .slice a1 ss.length c1] 26)).heap.size by simp) (.cells #[] 3))
  have HT := hid ((Two.new w (.slice a0 cs.length c0) (.slice a1 ss.length c1) 26).alloc (.cells #[] 3))
  have HO := hid (Own.empty (w.alloc (.cells #[.slice a0 cs.length c0, .slice a1 ss.length c1] 26)) 3 .i64 w.heap.size (by simp))
  have HCV := hid (show CV w (.agg #[.slice a0 cs.length c0, .slice a1 ss.length c1]) cs ss from ⟨a0, c0, a1, c1, rfl, u0, u1⟩)
  have HI := hid (spec_ok _ cs ss _ h0 h1 (HCV.out.below HB.out))
  have HX := hid hx
  simp only [World.size_alloc] at HO
  clear u0 u1 hx HB0
  by_cases hr : rightC cs ss = true
  · rw [hr] at HI
    go_enter Try.func33, Try.ntmps33
    go_wp2_with fail
    refine HI.out.mono ?_
    generalize (w.alloc (.cells #[.slice a0 cs.length c0, .slice a1 ss.length c1] 26)).alloc (.cells #[] 3) = wa at *
    rintro e w1 ⟨rfl, hb1⟩
    have B1 := hid (HB.out.trans (hb1.mono HB.out.size))
    have T1 := hid (HT.out.below hb1 HT.out.lt)
    have O1 := hid (HO.out.below hb1)
    have hs1 := B1.out.size
    clear hb1 HI
    obtain ⟨q1, q2, q3, q4⟩ := T1.out.cells
    have HIN := hid (spec_in n 0 60000 w1)
    by_cases ai : 0 ≤ n ∧ n ≤ 60000
    · rw [show decide ((0 : Int) ≤ n ∧ n ≤ 60000) = true by simpa using ai] at HIN
      obtain ⟨m, rfl⟩ := Int.eq_ofNat_of_zero_le ai.1
      obtain ⟨⟨hl, hok, ht, hroom⟩, htold, hap⟩ := (right_iff cs ss).1 hr
      have HKO := hid (keysTo_ok cs hok hroom 16 (Nat.le_refl _))
      have HKL := hid (keys_len cs ss hr)
      have HALL := hid (all_codes (.agg #[.slice a0 cs.length c0, .slice a1 ss.length c1]) cs ss w1 hr (HCV.out.below B1.out))
      have hmay : Hid (MayGet cs ss (m : Int)) := hid ⟨hr, by omega, by omega⟩
      have htn : Hid (((m : Int)).toNat = m) := hid (by omega)
      have hm6 : m ≤ 60000 := by omega
      clear hr hl hok ht hroom htold hap ai
      go_wp2_with (go_at_call 49; refine HIN.out.mono ?_; rintro e w2 ⟨rfl, rfl⟩)
      refine HALL.out.mono ?_
      rintro e w2 ⟨va, rfl, hall, hb2⟩
      have B2 := hid (B1.out.trans (hb2.mono B1.out.size))
      have T2 := hid (T1.out.below hb2 T1.out.lt)
      have O2 := hid (O1.out.below hb2)
      have HAL := hid hall
      have hs2 := B2.out.size
      have hblt : w.heap.size + 1 < w2.heap.size := by have := O2.out.ge; exact this.2
      clear hb2 hall q1 q2 q3 q4 HALL HIN
      go_wp2_with fail
      go_loopw [8, 10] (fun s p wr => ∃ (k a : Nat) (o : List Int), k ≤ m ∧ a ≤ xs.length ∧ p = .int .i64 a ∧ Hid (GetTo (keysTo cs 16) ss xs k o a) ∧ Hid (Own0 wr w2.heap.size (w.heap.size + 1) s o) ∧ Hid (Below w2.heap.size w2 wr)) (fun s _ _ => m - vlen s)
      case atStart => exact ⟨0, 0, [], by omega, by omega, rfl, ⟨rfl, rfl⟩, .inl ⟨rfl, rfl, Nat.le_refl _⟩, Below.refl _ _⟩
      case round =>
        obtain ⟨k, a, o, hk, ha, rfl, hget, hown, hbr⟩ := hrel
        have BR := hid (B2.out.trans (hbr.out.mono hs2))
        have hol := hget.out.len
        obtain ⟨so, sc', rfl⟩ := hown.out.shape
        rw [hol] at hown ⊢
        have hol2 : o.length < 1000000000000 := by omega
        clear hol
        have TR := hid (T2.out.below hbr.out T2.out.lt)
        obtain ⟨q1, q2, q3, q4⟩ := TR.out.cells
        by_cases hlt : k < m
        · have HSY := hid (sym_spec (.agg #[.slice a0 cs.length c0, .slice a1 ss.length c1]) va cs ss xs (keysTo cs 16) ao cap a _ wr h2 ha HKO.out HKL.out h1 (HCV.out.below BR.out) (HAL.out.belowB (Nat.le_refl _) hbr.out) (HX.out.below (Nat.le_refl _) BR.out))
          have hlt' : (k : Int) < (m : Int) := by omega
          go_wp2_with fail
          refine HSY.out.mono ?_
          rintro e w3 ⟨r0, r1, rfl, hs, hb3⟩
          have B3 := hid (BR.out.trans (hb3.mono BR.out.size))
          have C3 := hid (hbr.out.trans (hb3.mono hbr.out.size))
          have O3 := hid (hown.out.below hb3)
          have HS := hid hs
          have hs3 := B3.out.size
          rcases hs.sign with ⟨hp0, hp1⟩ | ⟨rfl, rfl⟩
          · have hnn : ¬ (r1 < 0) := by omega
            obtain ⟨b, rfl⟩ := Int.eq_ofNat_of_zero_le hp0
            clear hs hb3 HSY
            go_wp2_with (at_builtin; refine wpList_push0 _ rfl _ _ 24 rfl _ _ Try.underlying24 Try.info3 _ _ rfl O3.out r0 rfl hol2 ?_)
            intro v4 w4 ho4 hb4
            obtain ⟨to, tc, htv⟩ := ho4.shape
            subst htv
            go_wp2
            go_roundw
            case rel => exact ⟨k + 1, b, o ++ [r0], by omega, by omega, rfl, ⟨o, a, r0, _, hget.out, HS.out, hp0, rfl, rfl⟩, .inr ho4, C3.out.trans hb4⟩
            case measure => have := hget.out.len; simp [vlen]; omega
          · have HN := hid (show GetR cs ss xs (m : Int) [] false from .inr (.inl ⟨hmay.out, rfl, rfl, k, o, a, by rw [htn.out]; exact hlt, hget.out, HS.out⟩))
            clear hs hb3 HSY
            go_wp2_with fail
            go_ret2
            exact ⟨_, _, _, rfl, HN.out, Own.empty _ _ _ _ hs3, B3.out.alloc hs3 _⟩
        · obtain rfl : k = m := by omega
          have HN := hid (show GetR cs ss xs (k : Int) o true from .inl ⟨hmay.out, rfl, a, by rw [htn.out]; exact hget.out⟩)
          have HOW : Hid (Own wr w.heap.size 3 .i64 (.slice so k sc') o) := hid (by
            rcases hown.out with ⟨e1, e2, _⟩ | h
            · cases e1
              subst e2
              exact O2.out.below hbr.out
            · exact h.mono hs2)
          go_wp2_with fail
          go_ret2
          exact ⟨_, _, _, rfl, HN.out, HOW.out, BR.out⟩
    · rw [show decide ((0 : Int) ≤ n ∧ n ≤ 60000) = false by simpa using ai] at HIN
      have HN := hid (show GetR cs ss xs n [] false from .inr (.inr ⟨fun h => ai h.2, rfl, rfl⟩))
      clear hr ai
      go_wp2_with (go_at_call 49; refine HIN.out.mono ?_; rintro e w2 ⟨rfl, rfl⟩)
      go_ret2
      exact ⟨_, _, _, rfl, HN.out, O1.out, B1.out⟩
  · have hr' : rightC cs ss = false := by simpa using hr
    have HN := hid (show GetR cs ss xs n [] false from .inr (.inr ⟨fun h => hr h.1, rfl, rfl⟩))
    rw [hr'] at HI
    clear hr hr'
    go_enter Try.func33, Try.ntmps33
    go_wp2_with fail
    refine HI.out.mono ?_
    generalize (w.alloc (.cells #[.slice a0 cs.length c0, .slice a1 ss.length c1] 26)).alloc (.cells #[] 3) = wa at *
    rintro e w1 ⟨rfl, hb1⟩
    have B1 := hid (HB.out.trans (hb1.mono HB.out.size))
    have O1 := hid (HO.out.below hb1)
    clear hb1 HI
    go_wp2_with fail
    go_ret2
    exact ⟨_, _, _, rfl, HN.out, O1.out, B1.out⟩
end Go.Proofs.Ytedabeemmhfmlaa
