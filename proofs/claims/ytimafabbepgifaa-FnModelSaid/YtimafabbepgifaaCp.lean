/- Plain facts of the coder of bits by chances: its middle, its shifts, and that what was written is read. No machine in it. -/
import Derived.Test.YtimafabbepgifaaAid
namespace Go.Proofs.Ytimafabbepgifaa
open Go.RowKit
set_option linter.unusedVariables false

/-- A word. -/
def W32 (x : Int) : Prop := 0 ≤ x ∧ x < 4294967296
/-- Is p a chance? -/
def isCh (p : Int) : Bool := decide (1 ≤ p ∧ p ≤ 4095)
def cMid (lo hi p : Int) : Int := if isCh p = true ∧ lo ≤ hi then lo + (hi - lo) / 4096 * p else lo

theorem isCh_iff (p : Int) : isCh p = true ↔ 1 ≤ p ∧ p ≤ 4095 := by simp [isCh]

theorem cMid_part (d p : Int) (h : 0 ≤ d) (h1 : 1 ≤ p) (h2 : p ≤ 4095) : 0 ≤ d / 4096 * p ∧ d / 4096 * p ≤ d ∧ (0 < d → d / 4096 * p < d) := by
  have hq : 0 ≤ d / 4096 := Int.ediv_nonneg h (by decide)
  have m0 : 0 ≤ d / 4096 * p := Int.mul_nonneg hq (by omega)
  have m1 : d / 4096 * p ≤ d / 4096 * 4095 := Int.mul_le_mul_of_nonneg_left h2 hq
  have m2 : d / 4096 * 4096 ≤ d := Int.ediv_mul_le d (by decide)
  refine ⟨m0, by omega, fun hd => by omega⟩

theorem cMid_in {lo hi p : Int} (hl : W32 lo) (hh : W32 hi) (h : lo ≤ hi) (hp : isCh p = true) : lo ≤ cMid lo hi p ∧ cMid lo hi p ≤ hi ∧ (lo < hi → cMid lo hi p < hi) := by
  obtain ⟨h1, h2⟩ := (isCh_iff p).1 hp
  obtain ⟨a, b, c⟩ := cMid_part (hi - lo) p (by omega) h1 h2
  unfold cMid
  rw [if_pos ⟨hp, h⟩]
  refine ⟨by omega, by omega, fun hd => ?_⟩
  have := c (by omega)
  omega

theorem cMid_word {lo hi p : Int} (hl : W32 lo) (hh : W32 hi) : W32 (cMid lo hi p) := by
  by_cases hp : isCh p = true ∧ lo ≤ hi
  · obtain ⟨a, b, _⟩ := cMid_in hl hh hp.2 hp.1
    exact ⟨by have := hl.1; omega, by have := hh.2; omega⟩
  · unfold cMid
    rw [if_neg hp]
    exact hl

/-- The highest byte; the shifts of the two bounds. -/
def top (x : Int) : Int := x / 16777216
def sl (x : Int) : Int := x % 16777216 * 256
def sh (x : Int) : Int := x % 16777216 * 256 + 255
theorem sl_word (x : Int) : W32 (sl x) := by unfold W32 sl; omega
theorem sh_word (x : Int) : W32 (sh x) := by unfold W32 sh; omega
theorem top_byte {x : Int} (h : W32 x) : 0 ≤ top x ∧ top x ≤ 255 := by unfold W32 at h; unfold top; omega

def nrm : Nat → Int → Int → List Int × Int × Int
  | 0, lo, hi => ([], lo, hi)
  | n + 1, lo, hi => if top lo = top hi then (top lo :: (nrm n (sl lo) (sh hi)).1, (nrm n (sl lo) (sh hi)).2) else ([], lo, hi)
def Fu : Nat → Int → Int → Prop
  | 0, lo, hi => top lo ≠ top hi
  | n + 1, lo, hi => top lo = top hi → Fu n (sl lo) (sh hi)
theorem nrm_fu : ∀ n lo hi, Fu n lo hi → nrm (n + 1) lo hi = nrm n lo hi
  | 0, lo, hi, h => by
    have h' : top lo ≠ top hi := h
    simp [nrm, h']
  | n + 1, lo, hi, h => by
    by_cases e : top lo = top hi
    · have ih := nrm_fu n (sl lo) (sh hi) (h e)
      rw [nrm, if_pos e, ih]
      rw [nrm, if_pos e]
    · rw [nrm, if_neg e, nrm, if_neg e]
/-- All the shifts of two bounds: the bytes that go, and the bounds behind them. -/
def cN (lo hi : Int) : List Int × Int × Int := nrm 4 lo hi
theorem fu3 (lo hi : Int) : Fu 3 (sl lo) (sh hi) := by
  intro _ _ _
  show top _ ≠ top _
  unfold top sl sh
  omega
theorem cN_yes {lo hi : Int} (h : top lo = top hi) : cN lo hi = (top lo :: (cN (sl lo) (sh hi)).1, (cN (sl lo) (sh hi)).2) := by
  unfold cN
  rw [nrm_fu 3 _ _ (fu3 lo hi)]
  rw [nrm, if_pos h]
theorem cN_no {lo hi : Int} (h : top lo ≠ top hi) : cN lo hi = ([], lo, hi) := by
  unfold cN
  rw [nrm, if_neg h]
theorem nrm_len : ∀ n lo hi, (nrm n lo hi).1.length ≤ n
  | 0, lo, hi => by simp [nrm]
  | n + 1, lo, hi => by
    have := nrm_len n (sl lo) (sh hi)
    rw [nrm]
    split
    · simp; omega
    · simp
theorem cN_len (lo hi : Int) : (cN lo hi).1.length ≤ 4 := nrm_len 4 lo hi

/-- An induction over the shifts of two bounds. -/
theorem cN_ind (P : Int → Int → Prop) (hno : ∀ lo hi, top lo ≠ top hi → P lo hi) (hyes : ∀ lo hi, top lo = top hi → P (sl lo) (sh hi) → P lo hi) (lo hi : Int) : P lo hi := by
  have key : ∀ n lo hi, Fu n lo hi → P lo hi := by
    intro n
    induction n with
    | zero => intro lo hi h; exact hno lo hi h
    | succ n ih =>
      intro lo hi h
      by_cases e : top lo = top hi
      · exact hyes lo hi e (ih _ _ (h e))
      · exact hno lo hi e
  by_cases e : top lo = top hi
  · exact hyes lo hi e (key 3 _ _ (fu3 lo hi))
  · exact hno lo hi e

theorem cN_word (lo hi : Int) (hl : W32 lo) (hh : W32 hi) : W32 (cN lo hi).2.1 ∧ W32 (cN lo hi).2.2 ∧ (∀ x ∈ (cN lo hi).1, 0 ≤ x ∧ x ≤ 255) ∧ top (cN lo hi).2.1 ≠ top (cN lo hi).2.2 := by
  refine cN_ind (fun lo hi => W32 lo → W32 hi → W32 (cN lo hi).2.1 ∧ W32 (cN lo hi).2.2 ∧ (∀ x ∈ (cN lo hi).1, 0 ≤ x ∧ x ≤ 255) ∧ top (cN lo hi).2.1 ≠ top (cN lo hi).2.2) ?_ ?_ lo hi hl hh
  · intro lo hi h hl hh
    rw [cN_no h]
    exact ⟨hl, hh, fun x hx => by simp at hx, h⟩
  · intro lo hi h ih hl hh
    obtain ⟨a, b, c, d⟩ := ih (sl_word lo) (sh_word hi)
    rw [cN_yes h]
    refine ⟨a, b, fun x hx => ?_, d⟩
    rcases List.mem_cons.1 hx with rfl | hx
    · exact top_byte hl
    · exact c x hx

theorem cN_le (lo hi : Int) (hl : W32 lo) (hh : W32 hi) (h : lo ≤ hi) : (cN lo hi).2.1 ≤ (cN lo hi).2.2 := by
  refine cN_ind (fun lo hi => W32 lo → W32 hi → lo ≤ hi → (cN lo hi).2.1 ≤ (cN lo hi).2.2) ?_ ?_ lo hi hl hh h
  · intro lo hi h hl hh hle
    rw [cN_no h]
    exact hle
  · intro lo hi h ih hl hh hle
    rw [cN_yes h]
    refine ih (sl_word lo) (sh_word hi) ?_
    unfold top at h
    unfold W32 at hl hh
    unfold sl sh
    omega

/-- A state of the coder: its bounds and its bytes. -/
def okPut (lo hi b p : Int) (n : Nat) : Bool := decide ((0 ≤ b ∧ b ≤ 1) ∧ (1 ≤ p ∧ p ≤ 4095) ∧ lo ≤ hi ∧ n < 60000)
/-- The bounds behind a bit, ahead of the shifts. -/
def nLo (lo hi b p : Int) : Int := if b = 1 then lo else (cMid lo hi p + 1) % 4294967296
def nHi (lo hi b p : Int) : Int := if b = 1 then cMid lo hi p else hi
theorem nLo_word {lo hi b p : Int} (hl : W32 lo) (hh : W32 hi) : W32 (nLo lo hi b p) := by
  unfold nLo
  split
  · exact hl
  · unfold W32; omega
theorem nHi_word {lo hi b p : Int} (hl : W32 lo) (hh : W32 hi) : W32 (nHi lo hi b p) := by
  unfold nHi
  split
  · exact cMid_word hl hh
  · exact hh
def cPut (lo hi b p : Int) : List Int × Int × Int := cN (nLo lo hi b p) (nHi lo hi b p)
theorem cPut_word {lo hi b p : Int} (hl : W32 lo) (hh : W32 hi) : W32 (cPut lo hi b p).2.1 ∧ W32 (cPut lo hi b p).2.2 ∧ (∀ x ∈ (cPut lo hi b p).1, 0 ≤ x ∧ x ≤ 255) ∧ top (cPut lo hi b p).2.1 ≠ top (cPut lo hi b p).2.2 :=
  cN_word _ _ (nLo_word hl hh) (nHi_word hl hh)
/-- The bounds behind a bit, where they were apart. -/
theorem n_in {lo hi b p : Int} (hl : W32 lo) (hh : W32 hi) (h : lo < hi) (hp : isCh p = true) : lo ≤ nLo lo hi b p ∧ nLo lo hi b p ≤ nHi lo hi b p ∧ nHi lo hi b p ≤ hi := by
  obtain ⟨a, b', c⟩ := cMid_in hl hh (Int.le_of_lt h) hp
  have c := c h
  unfold nLo nHi
  unfold W32 at hl hh
  by_cases e : b = 1
  · rw [if_pos e, if_pos e]
    exact ⟨Int.le_refl _, a, b'⟩
  · rw [if_neg e, if_neg e]
    refine ⟨by omega, by omega, Int.le_refl _⟩
/-- The reader's state behind shifts: the code and the place. -/
def byteAt (s : ByteArray) (i : Int) : Int := if 0 ≤ i ∧ i < s.size then ((s.data.getD i.toNat 0).toNat : Int) else 0
theorem byteAt_lt (s : ByteArray) (i : Int) : 0 ≤ byteAt s i ∧ byteAt s i ≤ 255 := by
  unfold byteAt
  split
  · have := byte_lt (s.data.getD i.toNat 0)
    omega
  · omega
def rC (code : Int) (s : ByteArray) (at' : Int) : Nat → Int
  | 0 => code
  | n + 1 => rC (code % 16777216 * 256 + byteAt s at') s (at' + 1) n
theorem rC_word {s : ByteArray} : ∀ n code at', W32 code → W32 (rC code s at' n)
  | 0, code, at', h => h
  | n + 1, code, at', h => rC_word n _ _ (by have := byteAt_lt s at'; unfold W32 at *; omega)
end Go.Proofs.Ytimafabbepgifaa
