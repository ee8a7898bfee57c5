/- Plain facts on the codes of right Codes: which key (length and code) each symbol has. And the map's key type. -/
import Derived.Test.YtnnakmgngkpghaaOkBoth
import Derived.Test.YtnnakmgngkpghaaNumB
import Derived.Maps.Own
import Derived.Maps.OwnOps
import Derived.DeepKeys4
import Derived.MapViews
import Derived.ChangeSame
namespace Go.Proofs.Ytnnakmgngkpghaa
open Go.RowKit Go.Maps
set_option linter.unusedVariables false

/-- The first code of each length. -/
def sc (cs : List Int) : Nat → Int
  | 0 => 0
  | i + 1 => (sc cs i + cs.getD i 0) * 2
theorem sc_room (cs : List Int) : ∀ i, i ≤ 15 → sc cs i * 2 ^ (15 - i) = room cs i
  | 0, _ => by simp [sc, room]
  | i + 1, h => by
    have := sc_room cs i (by omega)
    rw [sc, room, ← this, show 15 - i = (15 - (i + 1)) + 1 by omega, Int.pow_succ, Int.add_mul, Int.add_mul, Int.mul_assoc, Int.mul_assoc, Int.mul_comm 2]
theorem room_mono (cs : List Int) (h : okTo cs 16 = true) : ∀ d i, i + d = 16 → room cs i ≤ room cs 16
  | 0, i, e => by rw [show i = 16 by omega]; exact Int.le_refl _
  | d + 1, i, e => by
    have h1 := room_mono cs h d (i + 1) (by omega)
    have hx := okTo_at cs 16 h i (by omega)
    have hp := pow2_le (15 - i) (by omega)
    have := mul_bounds _ _ hx.1 hx.2 hp.1 hp.2
    rw [room] at h1
    omega
theorem sc_nonneg (cs : List Int) (h : okTo cs 16 = true) : ∀ i, i ≤ 16 → 0 ≤ sc cs i
  | 0, _ => by simp [sc]
  | i + 1, hi => by
    have := sc_nonneg cs h i (by omega)
    have hx := okTo_at cs 16 h i (by omega)
    rw [sc]
    omega
/-- Codes of i + 1 bits are less than 2^(i + 1). -/
theorem sc_lt (cs : List Int) (h : okTo cs 16 = true) (hr : room cs 16 ≤ 65535) (i : Nat) (hi : i < 16) : sc cs i + cs.getD i 0 ≤ 2 ^ (i + 1) ∧ sc cs i + cs.getD i 0 ≤ 65536 := by
  have h1 := sc_room cs i (by omega)
  have h2 := room_mono cs h (16 - (i + 1)) (i + 1) (by omega)
  rw [room, ← h1, ← Int.add_mul] at h2
  have hs := sc_nonneg cs h i (by omega)
  have hx := okTo_at cs 16 h i hi
  have hp := pow2_le (15 - i) (by omega)
  have hp2 : (2 : Int) ^ (i + 1) * 2 ^ (15 - i) = 65536 := by rw [← Int.pow_add, show i + 1 + (15 - i) = 16 by omega]; decide
  have hq : (1 : Int) ≤ 2 ^ (i + 1) := by have := pow2_mono 0 (i + 1); rw [Nat.zero_add] at this; exact this
  have hC0 : 0 ≤ sc cs i + cs.getD i 0 := by omega
  generalize sc cs i + cs.getD i 0 = C at *
  generalize (2 : Int) ^ (15 - i) = P at *
  generalize (2 : Int) ^ (i + 1) = Q at *
  have hC : C ≤ Q := by
    refine Classical.byContradiction fun hn => ?_
    have h3 : Q * P ≤ C * P := Int.mul_le_mul_of_nonneg_right (by omega) (by omega)
    omega
  refine ⟨hC, ?_⟩
  have : C * 1 ≤ C * P := Int.mul_le_mul_of_nonneg_left hp.1 (by omega)
  omega

/-- The keys of the first k symbols with codes of i + 1 bits. -/
def rowKeys (cs : List Int) (i : Nat) : Nat → List (Nat × Int)
  | 0 => []
  | k + 1 => rowKeys cs i k ++ [(i + 1, sc cs i + k)]
/-- The keys of all symbols with codes of at most i bits. -/
def keysTo (cs : List Int) : Nat → List (Nat × Int)
  | 0 => []
  | i + 1 => keysTo cs i ++ rowKeys cs i (cs.getD i 0).toNat
def keysAt (cs : List Int) (i k : Nat) : List (Nat × Int) := keysTo cs i ++ rowKeys cs i k
theorem rowKeys_length (cs : List Int) (i : Nat) : ∀ k, (rowKeys cs i k).length = k
  | 0 => rfl
  | k + 1 => by simp [rowKeys, rowKeys_length cs i k]
theorem keysTo_length (cs : List Int) : ∀ i, okTo cs i = true → ((keysTo cs i).length : Int) = told cs i
  | 0, _ => rfl
  | i + 1, h => by
    simp only [okTo, Bool.and_eq_true] at h
    have := keysTo_length cs i h.1
    have hx := (inB_iff _).1 h.2
    rw [keysTo, told, List.length_append, rowKeys_length]
    omega
theorem keysAt_zero (cs : List Int) (i : Nat) : keysAt cs i 0 = keysTo cs i := by simp [keysAt, rowKeys]
theorem keysAt_succ (cs : List Int) (i k : Nat) : keysAt cs i (k + 1) = keysAt cs i k ++ [(i + 1, sc cs i + k)] := by simp [keysAt, rowKeys]
theorem keysAt_full (cs : List Int) (i k : Nat) (h : (cs.getD i 0).toNat = k) : keysAt cs i k = keysTo cs (i + 1) := by rw [keysAt, keysTo, h]

/-- The book behind the keys: what each symbol's key is; (0, 0) for none. -/
def bookTo (ss : List Int) : List (Nat × Int) → Nat → Nat × Int
  | K, j => go ss K K.length j
where go (ss : List Int) (K : List (Nat × Int)) : Nat → Nat → Nat × Int
  | 0, _ => (0, 0)
  | t + 1, j => if (j : Int) = ss.getD t 0 then K.getD t (0, 0) else go ss K t j

theorem laidOut : laidOutB Try.prog = true := by kernel_rfl
theorem row72 : (117 : TypeId) < Try.prog.types.size := of_decide_eq_true (by kernel_rfl)
theorem cells72 : Try.prog.cellsOf 117 = 2 := by kernel_rfl
theorem deep72 : Try.prog.keyTypeAt (Try.prog.types.size + 1) 117 = true := by kernel_rfl
theorem wide72 : (match Try.prog.underlying 117 with | some (.array _ _) | some (.struct _) => true | _ => false) = true := by kernel_rfl
set_option maxRecDepth 100000 in
theorem law72 : Keyed Try.prog 117 := Keyed.of_law (deep_law_laid laidOut (m := 2) (by omega) row72 (by kernel_rfl) wide72)
theorem formed72 {c0 c1 : Value} : (Value.agg #[c0, c1]).formed Try.prog 117 = true := by
  simp [Value.formed, Try.underlying117, cells72]
/-- What a key of the map reads as. -/
def kl72 (a b : Int) : Lit := (DataW.agg [.lit (.int .i64 a), .lit (.int .i64 b)] : DataW Unit).asKey
theorem cells3 : Try.prog.cellsOf 3 = 1 := by kernel_rfl
set_option maxRecDepth 100000 in
theorem key72 (w : World) (a b : Int) (ha : (Lit.int .i64 a).wf = true) (hb : (Lit.int .i64 b).wf = true) : keyOf Try.prog 117 (.agg #[.int .i64 a, .int .i64 b]) = some (kl72 a b) := by
  have h : DataW.Trod (H := Unit) (fun _ => ()) Try.prog w 0 (fun _ => true) true 117 (.agg #[.int .i64 a, .int .i64 b]) (.agg [.lit (.int .i64 a), .lit (.int .i64 b)]) [] :=
    ⟨2, by simp [DataW.trod, Value.cells, Try.underlying117, Try.underlying3, cells72, cells3, ha, hb]⟩
  exact (keyOf_asKey deep72 wide72 formed72 h).1
end Go.Proofs.Ytnnakmgngkpghaa
