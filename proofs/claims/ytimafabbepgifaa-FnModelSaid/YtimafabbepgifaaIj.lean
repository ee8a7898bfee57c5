/- ModelGet: what both sides answer; the contract of the program's. -/
import Derived.Test.YtimafabbepgifaaIi
namespace Go.Proofs.Ytimafabbepgifaa
open Go.RowKit
set_option linter.unusedVariables false

/-- The reader, the chances and the number that ModelGet answers. -/
def mgS (lo hi co i : Int) (ch : List Int) (R : Option (GS × Wk)) : GS := match R with
  | none => ⟨lo, hi, co, i, ch⟩
  | some (st, _) => st
def mgN (R : Option (GS × Wk)) : Int := match R with
  | none => 0
  | some (_, s) => wkNum s
/-- What ModelGet comes to. -/
def MgP (lo hi co : Int) (t : ByteArray) (i : Int) (ch : List Int) (R : Option (GS × Wk)) (w : World) (e : Ending) (w' : World) : Prop :=
  ∃ v', e = .returned (.tuple #[rV (mgS lo hi co i ch R).lo (mgS lo hi co i ch R).hi (mgS lo hi co i ch R).co t (mgS lo hi co i ch R).i, .agg #[v'], .int .i64 (mgN R), .bool R.isSome]) ∧ Own w' w.heap.size 3 .i64 v' (mgS lo hi co i ch R).ch ∧ Below w.heap.size w w'

theorem MgP.no {lo hi co : Int} {t : ByteArray} {i : Int} {ch : List Int} {R : Option (GS × Wk)} {w w' : World} (h : R = none) (v' : Value) (ho : Own w' w.heap.size 3 .i64 v' ch) (hb : Below w.heap.size w w') : MgP lo hi co t i ch R w (.returned (.tuple #[.agg #[.int .u32 lo, .int .u32 hi, .int .u32 co, .string t, .int .i64 i], .agg #[v'], .int .i64 0, .bool false])) w' := by
  subst h
  exact ⟨v', rfl, ho, hb⟩
theorem MgP.yes {lo hi co : Int} {t : ByteArray} {i : Int} {ch : List Int} {R : Option (GS × Wk)} {w w' : World} {st : GS} {s : Wk} (h : R = some (st, s)) (v' : Value) (ho : Own w' w.heap.size 3 .i64 v' st.ch) (hb : Below w.heap.size w w') : MgP lo hi co t i ch R w (.returned (.tuple #[.agg #[.int .u32 st.lo, .int .u32 st.hi, .int .u32 st.co, .string t, .int .i64 st.i], .agg #[v'], .int .i64 (wkNum s), .bool true])) w' := by
  subst h
  exact ⟨v', rfl, ho, hb⟩

theorem impl_mget (lo hi co : Int) (t : ByteArray) (i : Int) (v : Value) (ch : List Int) (B : Int) (w : World) (hl : W32 lo) (hh : W32 hi) (hc : W32 co) (hn : ch.length ≤ 1048576) (hv : Vp w v ch) :
    Calls Try.prog 14 #[rV lo hi co t i, .agg #[v], .int .i64 B] w (MgP lo hi co t i ch (mgR lo hi co t i ch B) w) := by
  unfold mgR
  by_cases h : okMG ch B = true
  · rw [if_pos h]
    obtain ⟨h1, h2⟩ := of_decide_eq_true h
    obtain ⟨k, rfl⟩ := Int.eq_ofNat_of_zero_le h2.1
    rw [Int.toNat_natCast]
    cases hG : getF k t 31 ⟨lo, hi, co, i, ch⟩ wk0 with
    | none => exact impl_mget_none lo hi co t i v ch k w hl hh hc h1 (by omega) hv hG
    | some x =>
      obtain ⟨st, s⟩ := x
      exact impl_mget_yes lo hi co t i v ch k st s w hl hh hc h1 (by omega) hv hG
  · rw [if_neg h]
    exact impl_mget_no lo hi co t i v ch B w hn (fun q => h (decide_eq_true q)) hv
end Go.Proofs.Ytimafabbepgifaa
