/- Contracts of SymAt of the program. -/
import Derived.Test.YtmdmolofiblbmaaSymImpl
namespace Go.Proofs.Ytmdmolofiblbmaa
open Go.RowKit Go.Maps
set_option linter.unusedVariables false

/-- A symbol may be looked for at i. -/
def MayAt (cs ss xs : List Int) (i : Int) : Prop := rightC cs ss = true ∧ 0 ≤ i ∧ i ≤ (xs.length : Int)
/-- What SymAt answers. -/
def SymR (cs ss xs : List Int) (i r0 r1 : Int) : Prop := (MayAt cs ss xs i ∧ SymIs (keysTo cs 16) ss xs i.toNat r0 r1) ∨ (¬ MayAt cs ss xs i ∧ r0 = -1 ∧ r1 = -1)
theorem SymR.one {cs ss xs : List Int} {i r0 r1 s0 s1 : Int} (h : SymR cs ss xs i r0 r1) (g : SymR cs ss xs i s0 s1) : r0 = s0 ∧ r1 = s1 := by
  rcases h with ⟨h1, h2⟩ | ⟨h1, rfl, rfl⟩
  · rcases g with ⟨g1, g2⟩ | ⟨g1, rfl, rfl⟩
    · exact h2.one g2
    · exact absurd h1 g1
  · rcases g with ⟨g1, g2⟩ | ⟨g1, rfl, rfl⟩
    · exact absurd g1 h1
    · exact ⟨rfl, rfl⟩

set_option maxRecDepth 100000 in
set_option maxHeartbeats 1600000 in
theorem impl_symAt (v : Value) (cs ss xs : List Int) (ao : Option Addr) (cap : Nat) (i : Int) (w : World) (h0 : cs.length ≤ 1048576) (h1 : ss.length ≤ 1048576) (h2 : xs.length ≤ 1048576) (hv : CV w v cs ss) (hx : View .i64 w ao xs.length xs) :
    Calls Try.prog 12 #[v, .slice ao xs.length cap, .int .i64 i] w fun e w' => ∃ r0 r1 : Int, e = .returned (.tuple #[.int .i64 r0, .int .i64 r1]) ∧ SymR cs ss xs i r0 r1 ∧ Below w.heap.size w w' := by
  obtain ⟨a0, c0, a1, c1, rfl, u0, u1⟩ := hv
  have HB := hid ((Below.refl w.heap.size w).alloc (Nat.le_refl _) (.cells #[.slice a0 cs.length c0, .slice a1 ss.length c1] 26))
  have HT := hid (Two.new w (.slice a0 cs.length c0) (.slice a1 ss.length c1) 26)
  have HCV := hid (show CV w (.agg #[.slice a0 cs.length c0, .slice a1 ss.length c1]) cs ss from ⟨a0, c0, a1, c1, rfl, u0, u1⟩)
  have HI := hid (impl_ok _ cs ss _ h0 h1 (HCV.out.below HB.out))
  have HX := hid hx
  clear u0 u1 hx
  by_cases hr : rightC cs ss = true
  · rw [hr] at HI
    have hlow : (i < 0) ∨ ¬ (i < 0) := Decidable.em _
    go_enter Try.func12, Try.ntmps12
    go_wp2_with fail
    refine HI.out.mono ?_
    generalize w.alloc (.cells #[.slice a0 cs.length c0, .slice a1 ss.length c1] 26) = wa at *
    rintro e w1 ⟨rfl, hb1⟩
    have B1 := hid (HB.out.trans (hb1.mono HB.out.size))
    have T1 := hid (HT.out.below hb1 HT.out.lt)
    clear hb1 HI
    obtain ⟨q1, q2, q3, q4⟩ := T1.out.cells
    by_cases a1' : i < 0
    · have HN := hid (show SymR cs ss xs i (-1) (-1) from .inr ⟨fun h => by have := h.2.1; omega, rfl, rfl⟩)
      clear hr hlow
      go_wp2_with fail
      go_ret2
      exact ⟨_, _, rfl, HN.out, B1.out⟩
    · by_cases a2 : (xs.length : Int) < i
      · have HN := hid (show SymR cs ss xs i (-1) (-1) from .inr ⟨fun h => by have := h.2.2; omega, rfl, rfl⟩)
        clear hr hlow
        go_wp2_with fail
        go_ret2
        exact ⟨_, _, rfl, HN.out, B1.out⟩
      · obtain ⟨j, rfl⟩ := Int.eq_ofNat_of_zero_le (show 0 ≤ i by omega)
        obtain ⟨⟨hl, hok, ht, hroom⟩, htold, hap⟩ := (right_iff cs ss).1 hr
        have HKO := hid (keysTo_ok cs hok hroom 16 (Nat.le_refl _))
        have HKP := hid (keysTo_lt cs 16).1
        have HBOOK := hid (book_any (.agg #[.slice a0 cs.length c0, .slice a1 ss.length c1]) cs ss w1 hr (HCV.out.below B1.out))
        have HYES := hid (fun r0 r1 (h : SymIs (keysTo cs 16) ss xs j r0 r1) => (show SymR cs ss xs (j : Int) r0 r1 from .inl ⟨⟨hr, by omega, by omega⟩, by rw [show ((j : Int)).toNat = j by omega]; exact h⟩))
        have hjx : j ≤ xs.length := by omega
        clear hr hlow hl hok ht hroom htold hap
        go_wp2_with fail
        refine HBOOK.out.mono ?_
        rintro e w2 ⟨C, M, rfl, hbk, hb2⟩
        have B2 := hid (B1.out.trans (hb2.mono B1.out.size))
        have HSY := hid (symAt_any C M ss xs (keysTo cs 16) ao cap j w2 h2 hjx HKO.out HKP.out hbk (HX.out.below (Nat.le_refl _) B2.out))
        clear hbk hb2
        go_wp2_with fail
        refine HSY.out.mono ?_
        rintro e w3 ⟨r0, r1, rfl, hs, hb3⟩
        have HS := hid (HYES.out r0 r1 hs)
        clear hs
        go_wp2_with fail
        go_ret2
        exact ⟨_, _, rfl, HS.out, B2.out.trans (hb3.mono B2.out.size)⟩
  · have hr' : rightC cs ss = false := by simpa using hr
    have HN := hid (show SymR cs ss xs i (-1) (-1) from .inr ⟨fun h => hr h.1, rfl, rfl⟩)
    rw [hr'] at HI
    clear hr hr'
    go_enter Try.func12, Try.ntmps12
    go_wp2_with fail
    refine HI.out.mono ?_
    generalize w.alloc (.cells #[.slice a0 cs.length c0, .slice a1 ss.length c1] 26) = wa at *
    rintro e w1 ⟨rfl, hb1⟩
    have B1 := hid (HB.out.trans (hb1.mono HB.out.size))
    clear hb1 HI
    go_wp2_with fail
    go_ret2
    exact ⟨_, _, rfl, HN.out, B1.out⟩
end Go.Proofs.Ytmdmolofiblbmaa
