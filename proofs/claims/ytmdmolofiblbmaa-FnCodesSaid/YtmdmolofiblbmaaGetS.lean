/- The contract of GetSyms of the program. -/
import Derived.Test.YtmdmolofiblbmaaSymImpl
import Derived.Test.YtmdmolofiblbmaaPutPlain
namespace Go.Proofs.Ytmdmolofiblbmaa
open Go.RowKit Go.Maps
set_option linter.unusedVariables false

/-- The first k symbols that bits tell, and where they end. -/
def GetTo (K : List (Nat × Int)) (ss xs : List Int) : Nat → List Int → Nat → Prop
  | 0, out, at' => out = [] ∧ at' = 0
  | k + 1, out, at' => ∃ out0 at0 r0 r1, GetTo K ss xs k out0 at0 ∧ SymIs K ss xs at0 r0 r1 ∧ 0 ≤ r1 ∧ out = out0 ++ [r0] ∧ (at' : Int) = r1
theorem GetTo.one {K : List (Nat × Int)} {ss xs : List Int} : ∀ {k : Nat} {o o' : List Int} {a a' : Nat}, GetTo K ss xs k o a → GetTo K ss xs k o' a' → o = o' ∧ a = a'
  | 0, _, _, _, _, ⟨h1, h2⟩, ⟨g1, g2⟩ => ⟨h1.trans g1.symm, h2.trans g2.symm⟩
  | k + 1, _, _, _, _, ⟨o0, a0, r0, r1, h1, h2, h3, h4, h5⟩, ⟨p0, b0, s0, s1, g1, g2, g3, g4, g5⟩ => by
    obtain ⟨e1, e2⟩ := GetTo.one h1 g1
    subst e1
    subst e2
    obtain ⟨e3, e4⟩ := h2.one g2
    subst e3
    subst e4
    exact ⟨h4.trans g4.symm, by omega⟩
theorem GetTo.len {K : List (Nat × Int)} {ss xs : List Int} : ∀ {k : Nat} {o : List Int} {a : Nat}, GetTo K ss xs k o a → o.length = k
  | 0, _, _, ⟨h1, _⟩ => by rw [h1]; rfl
  | k + 1, _, _, ⟨o0, a0, r0, r1, h1, _, _, h4, _⟩ => by rw [h4, List.length_append, GetTo.len h1]; rfl
theorem GetTo.lower {K : List (Nat × Int)} {ss xs : List Int} : ∀ {n : Nat} {o : List Int} {a : Nat}, GetTo K ss xs n o a → ∀ k, k < n → ∃ o' a' r0 r1, GetTo K ss xs k o' a' ∧ SymIs K ss xs a' r0 r1 ∧ 0 ≤ r1
  | n + 1, _, _, ⟨o0, a0, r0, r1, h1, h2, h3, _, _⟩, k, hk => by
    by_cases e : k = n
    · subst e; exact ⟨o0, a0, r0, r1, h1, h2, h3⟩
    · exact GetTo.lower h1 k (by omega)
theorem SymIs.sign {K : List (Nat × Int)} {ss xs : List Int} {i : Nat} {r0 r1 : Int} (h : SymIs K ss xs i r0 r1) : (0 ≤ r1 ∧ r1 ≤ (xs.length : Int)) ∨ (r0 = -1 ∧ r1 = -1) := by
  rcases h with ⟨p, hp, hm, _, _, rfl⟩ | ⟨_, h1, h2⟩
  · have := hm.1
    exact .inl ⟨by omega, by omega⟩
  · exact .inr ⟨h1, h2⟩
theorem SymIs.total (K : List (Nat × Int)) (ss xs : List Int) (i : Nat) : ∃ r0 r1, SymIs K ss xs i r0 r1 := by
  have h : ∀ n, n ≤ K.length → (∃ p, p < n ∧ Mt xs i (kp K p) ∧ ∀ q, q < p → ¬ Mt xs i (kp K q)) ∨ ∀ q, q < n → ¬ Mt xs i (kp K q) := by
    intro n
    induction n with
    | zero => exact fun _ => .inr fun q hq => by omega
    | succ n ih =>
      intro hn
      rcases ih (by omega) with ⟨p, hp, h1, h2⟩ | hno
      · exact .inl ⟨p, by omega, h1, h2⟩
      · by_cases hm : Mt xs i (kp K n)
        · exact .inl ⟨n, by omega, hm, hno⟩
        · refine .inr fun q hq => ?_
          by_cases e : q = n
          · rw [e]; exact hm
          · exact hno q (by omega)
  rcases h K.length (Nat.le_refl _) with ⟨p, hp, h1, h2⟩ | hno
  · exact ⟨_, _, .inl ⟨p, hp, h1, h2, rfl, rfl⟩⟩
  · exact ⟨_, _, .inr ⟨hno, rfl, rfl⟩⟩

/-- n symbols may be asked for. -/
def MayGet (cs ss : List Int) (n : Int) : Prop := rightC cs ss = true ∧ 0 ≤ n ∧ n ≤ 60000
/-- What GetSyms answers. -/
def GetR (cs ss xs : List Int) (n : Int) (out : List Int) (ok : Bool) : Prop :=
  (MayGet cs ss n ∧ ok = true ∧ ∃ a, GetTo (keysTo cs 16) ss xs n.toNat out a) ∨
  (MayGet cs ss n ∧ ok = false ∧ out = [] ∧ ∃ k o a, (k : Nat) < n.toNat ∧ GetTo (keysTo cs 16) ss xs k o a ∧ SymIs (keysTo cs 16) ss xs a (-1) (-1)) ∨
  (¬ MayGet cs ss n ∧ ok = false ∧ out = [])
theorem no_both {K : List (Nat × Int)} {ss xs o o' : List Int} {n k a a' : Nat} (h : GetTo K ss xs n o a) (hk : k < n) (g : GetTo K ss xs k o' a') (hs : SymIs K ss xs a' (-1) (-1)) : False := by
  obtain ⟨o2, a2, r0, r1, h1, h2, h3⟩ := h.lower k hk
  obtain ⟨e1, e2⟩ := h1.one g
  subst e2
  obtain ⟨_, e4⟩ := h2.one hs
  omega
theorem GetR.one {cs ss xs : List Int} {n : Int} {o o' : List Int} {b b' : Bool} (h : GetR cs ss xs n o b) (g : GetR cs ss xs n o' b') : o = o' ∧ b = b' := by
  rcases h with ⟨h1, rfl, a, h2⟩ | ⟨h1, rfl, rfl, k, p, a, hk, h2, h3⟩ | ⟨h1, rfl, rfl⟩
  · rcases g with ⟨g1, rfl, a', g2⟩ | ⟨g1, rfl, rfl, k', p', a', hk', g2, g3⟩ | ⟨g1, rfl, rfl⟩
    · exact ⟨(h2.one g2).1, rfl⟩
    · exact (no_both h2 hk' g2 g3).elim
    · exact absurd h1 g1
  · rcases g with ⟨g1, rfl, a', g2⟩ | ⟨g1, rfl, rfl, _⟩ | ⟨g1, rfl, rfl⟩
    · exact (no_both g2 hk h2 h3).elim
    · exact ⟨rfl, rfl⟩
    · exact absurd h1 g1
  · rcases g with ⟨g1, rfl, a', g2⟩ | ⟨g1, rfl, rfl, _⟩ | ⟨g1, rfl, rfl⟩
    · exact absurd g1 h1
    · exact ⟨rfl, rfl⟩
    · exact ⟨rfl, rfl⟩
theorem GetR.total (cs ss xs : List Int) (n : Int) : ∃ o b, GetR cs ss xs n o b := by
  by_cases hm : MayGet cs ss n
  · have h : ∀ m, (∃ o a, GetTo (keysTo cs 16) ss xs m o a) ∨ ∃ k o a, k < m ∧ GetTo (keysTo cs 16) ss xs k o a ∧ SymIs (keysTo cs 16) ss xs a (-1) (-1) := by
      intro m
      induction m with
      | zero => exact .inl ⟨[], 0, rfl, rfl⟩
      | succ m ih =>
        rcases ih with ⟨o, a, h1⟩ | ⟨k, o, a, hk, h1, h2⟩
        · obtain ⟨r0, r1, hs⟩ := SymIs.total (keysTo cs 16) ss xs a
          rcases hs.sign with ⟨h3, _⟩ | ⟨rfl, rfl⟩
          · exact .inl ⟨o ++ [r0], r1.toNat, o, a, r0, r1, h1, hs, h3, rfl, by omega⟩
          · exact .inr ⟨m, o, a, by omega, h1, hs⟩
        · exact .inr ⟨k, o, a, by omega, h1, h2⟩
    rcases h n.toNat with ⟨o, a, h1⟩ | ⟨k, o, a, hk, h1, h2⟩
    · exact ⟨o, true, .inl ⟨hm, rfl, a, h1⟩⟩
    · exact ⟨[], false, .inr (.inl ⟨hm, rfl, rfl, k, o, a, hk, h1, h2⟩)⟩
  · exact ⟨[], false, .inr (.inr ⟨hm, rfl, rfl⟩)⟩
theorem GetR.len {cs ss xs : List Int} {n : Int} {o : List Int} {b : Bool} (h : GetR cs ss xs n o b) : o.length ≤ 60000 := by
  rcases h with ⟨h1, _, a, h2⟩ | ⟨_, _, rfl, _⟩ | ⟨_, _, rfl⟩
  · have := h2.len
    have := h1.2
    omega
  · simp
  · simp

set_option maxRecDepth 100000 in
set_option maxHeartbeats 4000000 in
theorem impl_getSyms (v : Value) (cs ss xs : List Int) (ao : Option Addr) (cap : Nat) (n : Int) (w : World) (h0 : cs.length ≤ 1048576) (h1 : ss.length ≤ 1048576) (h2 : xs.length ≤ 1048576) (hv : CV w v cs ss) (hx : View .i64 w ao xs.length xs) :
    Calls Try.prog 15 #[v, .slice ao xs.length cap, .int .i64 n] w fun e w' => ∃ v' R F, e = .returned (.tuple #[v', .bool F]) ∧ GetR cs ss xs n R F ∧ Own w' w.heap.size 3 .i64 v' R ∧ Below w.heap.size w w' := by
  obtain ⟨a0, c0, a1, c1, rfl, u0, u1⟩ := hv
  have HB := hid ((Below.refl w.heap.size w).alloc (Nat.le_refl _) (.cells #[.slice a0 cs.length c0, .slice a1 ss.length c1] 26))
  have HT := hid (Two.new w (.slice a0 cs.length c0) (.slice a1 ss.length c1) 26)
  have HCV := hid (show CV w (.agg #[.slice a0 cs.length c0, .slice a1 ss.length c1]) cs ss from ⟨a0, c0, a1, c1, rfl, u0, u1⟩)
  have HI := hid (impl_ok _ cs ss _ h0 h1 (HCV.out.below HB.out))
  have HX := hid hx
  clear u0 u1 hx
  by_cases hr : rightC cs ss = true
  · rw [hr] at HI
    go_enter Try.func15, Try.ntmps15
    go_wp2_with fail
    refine HI.out.mono ?_
    generalize w.alloc (.cells #[.slice a0 cs.length c0, .slice a1 ss.length c1] 26) = wa at *
    rintro e w1 ⟨rfl, hb1⟩
    have B1 := hid (HB.out.trans (hb1.mono HB.out.size))
    have T1 := hid (HT.out.below hb1 HT.out.lt)
    have hs1 := B1.out.size
    clear hb1 HI
    obtain ⟨q1, q2, q3, q4⟩ := T1.out.cells
    by_cases a1' : n < 0
    · have HN := hid (show GetR cs ss xs n [] false from .inr (.inr ⟨fun h => by have := h.2.1; omega, rfl, rfl⟩))
      clear hr
      go_wp2_with fail
      go_ret2
      exact ⟨_, _, _, rfl, HN.out, Own.empty _ _ _ _ hs1, B1.out.alloc hs1 _⟩
    · by_cases a2 : 60000 < n
      · have HN := hid (show GetR cs ss xs n [] false from .inr (.inr ⟨fun h => by have := h.2.2; omega, rfl, rfl⟩))
        clear hr
        go_wp2_with fail
        go_ret2
        exact ⟨_, _, _, rfl, HN.out, Own.empty _ _ _ _ hs1, B1.out.alloc hs1 _⟩
      · obtain ⟨m, rfl⟩ := Int.eq_ofNat_of_zero_le (show 0 ≤ n by omega)
        obtain ⟨⟨hl, hok, ht, hroom⟩, htold, hap⟩ := (right_iff cs ss).1 hr
        have HKO := hid (keysTo_ok cs hok hroom 16 (Nat.le_refl _))
        have HKP := hid (keysTo_lt cs 16).1
        have HBOOK := hid (book_any (.agg #[.slice a0 cs.length c0, .slice a1 ss.length c1]) cs ss w1 hr (HCV.out.below B1.out))
        have hmay : Hid (MayGet cs ss (m : Int)) := hid ⟨hr, by omega, by omega⟩
        have htn : Hid (((m : Int)).toNat = m) := hid (by omega)
        clear hr hl hok ht hroom htold hap
        go_wp2_with fail
        refine HBOOK.out.mono ?_
        rintro e w2 ⟨C, M, rfl, hbk, hb2⟩
        have B2 := hid (B1.out.trans (hb2.mono B1.out.size))
        have HBK := hid hbk
        obtain ⟨hC, hM⟩ := hbk.lt
        have hs2 := B2.out.size
        clear hbk hb2 HBOOK
        have O2 := hid (Own.empty w2 3 .i64 w2.heap.size (Nat.le_refl _))
        have A2 := hid ((Below.refl w2.heap.size w2).alloc (Nat.le_refl _) (.cells #[] 3))
        go_wp2_with fail
        go_loopw [9, 10, 29] (fun s p i wr => ∃ (k a : Nat) (o : List Int), k ≤ m ∧ a ≤ xs.length ∧ i = .int .i64 k ∧ p = .int .i64 a ∧ Hid (GetTo (keysTo cs 16) ss xs k o a) ∧ Hid (Own wr w2.heap.size 3 .i64 s o) ∧ Hid (Below w2.heap.size w2 wr)) (fun _ _ i _ => m - (intOf i).toNat)
        case atStart => exact ⟨0, 0, [], by omega, by omega, rfl, rfl, ⟨rfl, rfl⟩, O2.out, A2.out⟩
        case round =>
          obtain ⟨k, a, o, hk, ha, rfl, rfl, hget, hown, hbr⟩ := hrel
          have BR := hid (B2.out.trans (hbr.out.mono hs2))
          have hol : o.length < 1000000000000 := by have := hget.out.len; omega
          by_cases hlt : k < m
          · have HSY := hid (symAt_any C M ss xs (keysTo cs 16) ao cap a wr h2 ha HKO.out HKP.out (HBK.out.belowB hbr.out hC hM) (HX.out.below (Nat.le_refl _) BR.out))
            have hlt' : (k : Int) < (m : Int) := by omega
            go_wp2_with fail
            refine HSY.out.mono ?_
            rintro e w3 ⟨r0, r1, rfl, hs, hb3⟩
            have B3 := hid (BR.out.trans (hb3.mono BR.out.size))
            have C3 := hid (hbr.out.trans (hb3.mono hbr.out.size))
            have O3 := hid (hown.out.below hb3)
            have HS := hid hs
            have hs3 := B3.out.size
            rcases hs.sign with ⟨hp0, hp1⟩ | ⟨rfl, rfl⟩
            · have hnn : ¬ (r1 < 0) := by omega
              obtain ⟨b, rfl⟩ := Int.eq_ofNat_of_zero_le hp0
              clear hs hb3 HSY
              go_wp2_with (at_builtin; refine wpList_push _ rfl _ _ 24 rfl _ 3 .i64 0 8 Try.underlying24 Try.info3 _ _ rfl O3.out r0 rfl hol (by decide) ?_)
              intro v4 w4 ho4 hb4
              go_wp2
              go_roundw
              case rel => exact ⟨k + 1, b, o ++ [r0], by omega, by omega, by go_num, rfl, ⟨o, a, r0, _, hget.out, HS.out, hp0, rfl, rfl⟩, ho4, C3.out.trans hb4⟩
              case measure => simp [intOf]; omega
            · have HN := hid (show GetR cs ss xs (m : Int) [] false from .inr (.inl ⟨hmay.out, rfl, rfl, k, o, a, by rw [htn.out]; exact hlt, hget.out, HS.out⟩))
              clear hs hb3 HSY
              go_wp2_with fail
              go_ret2
              exact ⟨_, _, _, rfl, HN.out, Own.empty _ _ _ _ hs3, B3.out.alloc hs3 _⟩
          · obtain rfl : k = m := by omega
            obtain ⟨so, sc', rfl⟩ := hown.out.shape
            have HN := hid (show GetR cs ss xs (k : Int) o true from .inl ⟨hmay.out, rfl, a, by rw [htn.out]; exact hget.out⟩)
            go_wp2_with fail
            go_ret2
            exact ⟨_, _, _, rfl, HN.out, hown.out.mono hs2, BR.out⟩
  · have hr' : rightC cs ss = false := by simpa using hr
    have HN := hid (show GetR cs ss xs n [] false from .inr (.inr ⟨fun h => hr h.1, rfl, rfl⟩))
    rw [hr'] at HI
    clear hr hr'
    go_enter Try.func15, Try.ntmps15
    go_wp2_with fail
    refine HI.out.mono ?_
    generalize w.alloc (.cells #[.slice a0 cs.length c0, .slice a1 ss.length c1] 26) = wa at *
    rintro e w1 ⟨rfl, hb1⟩
    have B1 := hid (HB.out.trans (hb1.mono HB.out.size))
    have hs1 := B1.out.size
    clear hb1 HI
    go_wp2_with fail
    go_ret2
    exact ⟨_, _, _, rfl, HN.out, Own.empty _ _ _ _ hs1, B1.out.alloc hs1 _⟩
end Go.Proofs.Ytmdmolofiblbmaa
