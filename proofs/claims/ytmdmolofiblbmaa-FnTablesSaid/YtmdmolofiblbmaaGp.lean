/- The numbers of a text's bytes, and what may be codes at a place of a text. Plain facts, and the contract of numbersOf. -/
import Derived.Test.YtmdmolofiblbmaaPc
namespace Go.Proofs.Ytmdmolofiblbmaa
open Go.RowKit
set_option linter.unusedVariables false

def bt (s : ByteArray) (j : Nat) : Int := if h : j < s.size then (s[j].toNat : Int) else 0
theorem bt_eq (s : ByteArray) (j : Nat) (h : j < s.size) : bt s j = (s[j].toNat : Int) := by simp [bt, h]
theorem bt_nonneg (s : ByteArray) (j : Nat) : 0 ≤ bt s j := by unfold bt; split <;> omega
theorem bt_lt (s : ByteArray) (j : Nat) : bt s j < 256 := by
  unfold bt
  split
  · exact byte_lt _
  · omega
theorem bt_tail (s : ByteArray) (j : Nat) : bt (s.extract 1 s.size) j = bt s (j + 1) := by
  unfold bt
  have e : (s.extract 1 s.size).size = s.size - 1 := by rw [ByteArray.size_extract]; omega
  by_cases h : j + 1 < s.size
  · rw [dif_pos h, dif_pos (by omega)]
    congr 2
    rw [ByteArray.getElem_extract]
    congr 1
    omega
  · rw [dif_neg h, dif_neg (by omega)]

/-- The bytes of a text from place i on, n of them. -/
def bts (s : ByteArray) (i n : Nat) : List Int := (List.range n).map fun k => bt s (i + k)
theorem bts_length (s : ByteArray) (i n : Nat) : (bts s i n).length = n := by simp [bts]
theorem bts_get (s : ByteArray) (i n j : Nat) (h : j < n) : (bts s i n).getD j 0 = bt s (i + j) := by simp [bts, List.getD, h]
theorem bts_succ (s : ByteArray) (i n : Nat) : bts s i (n + 1) = bts s i n ++ [bt s (i + n)] := by simp [bts, List.range_succ]
theorem bts_byt (s : ByteArray) (i n : Nat) : Byt (bts s i n) := by
  intro j hj
  rw [bts_length] at hj
  rw [bts_get s i n j hj]
  have h1 := bt_nonneg s (i + j)
  have h2 := bt_lt s (i + j)
  omega
theorem bt_ext (s : ByteArray) (i e j : Nat) (h : i + j < e) (he : e ≤ s.size) : bt (s.extract i e) j = bt s (i + j) := by
  have hz : (s.extract i e).size = e - i := by rw [ByteArray.size_extract]; omega
  rw [bt_eq _ j (by omega), bt_eq s (i + j) (by omega), ByteArray.getElem_extract]
theorem bts_ext (s : ByteArray) (i e n : Nat) (h : i + n ≤ e) (he : e ≤ s.size) : bts (s.extract i e) 0 n = bts s i n := by
  unfold bts
  apply List.map_congr_left
  intro k hk
  have := List.mem_range.1 hk
  rw [bt_ext s i e (0 + k) (by omega) he, Nat.zero_add]
theorem str_bts (s : ByteArray) (i n : Nat) (h : i + n ≤ s.size) : strOfNums (bts s i n) = s.extract i (i + n) := by
  have hz : (s.extract i (i + n)).size = n := by rw [ByteArray.size_extract]; omega
  apply ByteArray.ext
  apply Array.ext
  · show (strOfNums (bts s i n)).size = _
    rw [strOfNums_size, bts_length]
    exact hz.symm
  · intro j h1 h2
    have hj : j < n := by
      have : j < (strOfNums (bts s i n)).size := h1
      rw [strOfNums_size, bts_length] at this
      exact this
    have e1 : (s.extract i (i + n)).data[j] = s[i + j] := by
      show (s.extract i (i + n))[j] = _
      rw [ByteArray.getElem_extract]
    rw [e1]
    simp [strOfNums, bts, bt_eq s (i + j) (by omega)]
theorem bts_append (s : ByteArray) (i a b : Nat) : bts s i a ++ bts s (i + a) b = bts s i (a + b) := by
  induction b with
  | zero => simp [bts]
  | succ b ih => rw [bts_succ, ← List.append_assoc, ih, Nat.add_assoc, ← bts_succ, Nat.add_assoc]

/-- The codes that stand in a text at a place. -/
def cdR (s : ByteArray) (i : Nat) : Option (List Int × List Int) :=
  if i + 16 ≤ s.size ∧ goodC (bts s i 16) = true ∧ (i : Int) + 16 + told (bts s i 16) 16 ≤ s.size ∧ rightC (bts s i 16) (bts s (i + 16) (told (bts s i 16) 16).toNat) = true
  then some (bts s i 16, bts s (i + 16) (told (bts s i 16) 16).toNat) else none
def getR (s : ByteArray) (i : Int) : Option (List Int × List Int) := if 0 ≤ i then cdR s i.toNat else none
/-- What GetCodes answers. -/
def GcP (w : World) (i : Int) (R : Option (List Int × List Int)) (e : Ending) (w' : World) : Prop :=
  ∃ v, e = .returned (.tuple #[v, .int .i64 (match R with | some r => i + 16 + r.2.length | none => -1)]) ∧ COwn w' w.heap.size v (match R with | some r => r.1 | none => []) (match R with | some r => r.2 | none => []) ∧ Below w.heap.size w w'
theorem GcP.none {w w' : World} {i : Int} {v : Value} (h : COwn w' w.heap.size v [] []) (hb : Below w.heap.size w w') : GcP w i .none (.returned (.tuple #[v, .int .i64 (-1)])) w' := ⟨v, rfl, h, hb⟩
theorem getR_neg (s : ByteArray) (i : Int) (h : i < 0) : getR s i = none := by unfold getR; rw [if_neg (by omega)]
theorem getR_short (s : ByteArray) (i : Nat) (h : s.size < i + 16) : getR s (i : Int) = none := by
  unfold getR cdR
  rw [if_pos (by omega), if_neg (fun h2 => by have := h2.1; simp at this; omega)]
theorem getR_at (s : ByteArray) (i : Nat) : getR s (i : Int) = cdR s i := by unfold getR; rw [if_pos (by omega)]; rfl
theorem cdR_some (s : ByteArray) (i : Nat) (cs ss : List Int) (h : cdR s i = some (cs, ss)) : cs.length = 16 ∧ ss.length ≤ 255 ∧ i + 16 + ss.length ≤ s.size ∧ rightC cs ss = true := by
  unfold cdR at h
  split at h
  · rename_i hh
    obtain ⟨h1, h2, h3, h4⟩ := hh
    cases h
    obtain ⟨l0, _, _, l1, l2⟩ := right_byt h4
    refine ⟨l0, l2, ?_, h4⟩
    rw [bts_length]
    have := (goodC_iff _).1 h2
    omega
  · cases h
theorem COwn.nilG (w : World) (base : Nat) (hb : base ≤ w.heap.size) : COwn w base (.agg #[.slice none 0 0, .slice none 0 0]) [] [] :=
  ⟨_, _, w.heap.size, rfl, hb, Own.nil w 3 .i64 base hb, Own.nil w 3 .i64 _ (Nat.le_refl _), fun a n c h => by cases h⟩

set_option maxRecDepth 100000 in
set_option maxHeartbeats 800000 in
theorem numbersOf (s : ByteArray) (w : World) (hn : s.size ≤ 1048576) :
    Calls Try.prog 53 #[.string s] w fun e w' => ∃ v, e = .returned v ∧ Own w' w.heap.size 3 .i64 v (bts s 0 s.size) ∧ Below w.heap.size w w' := by
  go_enter Try.func53, Try.ntmps53
  go_wp2_with (at_make; refine wpList_mk0 w rfl _ _ 24 rfl w.heap.size 3 .i64 0 8 Try.underlying24 Try.info3 _ _ s.size rfl rfl (by omega) (by decide) (Nat.le_refl _) ?_)
  intro w0 hown0 hb0
  go_wp2
  go_loopw [3, 10] (fun v i wr => ∃ k : Nat, k ≤ s.size ∧ i = .int .i64 k ∧ Own wr w.heap.size 3 .i64 v (bts s 0 k) ∧ Below w.heap.size w wr) (fun _ i _ => s.size - (intOf i).toNat)
  case atStart => exact ⟨0, by omega, rfl, hown0, hb0⟩
  case round =>
    obtain ⟨k, hk, rfl, hown, hb⟩ := hrel
    clear hown0 hb0
    by_cases hlt : k < s.size
    · have he := bt_eq s k hlt
      have hst : Hid (bts s 0 (k + 1) = bts s 0 k ++ [wrap64 (s[k].toNat : Int)]) := by
        show _ = _
        rw [bts_succ, Nat.zero_add, he, w64 (by omega) (by have := byte_lt s[k]; omega)]
      have hlen : (bts s 0 k).length ≤ 1048576 := by rw [bts_length]; omega
      clear he
      go_wp2_with (at_builtin; refine wpList_push _ rfl _ _ 24 rfl _ 3 .i64 0 8 Try.underlying24 Try.info3 _ _ rfl hown _ rfl (by omega) (by decide) ?_)
      intro v1 w1 hown1 hb1
      go_wp2
      go_roundw
      case rel => exact ⟨k + 1, by omega, by go_num, by rw [hst.out]; exact hown1, hb.trans hb1⟩
      case measure => simp [intOf]; omega
    · obtain rfl : k = s.size := by omega
      obtain ⟨ao, cap, rfl⟩ := hown.shape
      go_wp2
      go_ret
      exact ⟨_, rfl, hown, hb⟩
end Go.Proofs.Ytmdmolofiblbmaa
