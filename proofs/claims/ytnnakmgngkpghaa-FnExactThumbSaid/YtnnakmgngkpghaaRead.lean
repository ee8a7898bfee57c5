/- Contracts of the reader's fill and next. -/
import Derived.Test.YtnnakmgngkpghaaWrite
namespace Go.Proofs.Ytnnakmgngkpghaa
open Go.RowKit
set_option linter.unusedVariables false

/-- The byte at a place; 0 where there is none. -/
def bt (s : ByteArray) (j : Nat) : Int := if h : j < s.size then (s[j].toNat : Int) else 0
theorem bt_eq (s : ByteArray) (j : Nat) (h : j < s.size) : bt s j = (s[j].toNat : Int) := by simp [bt, h]
theorem bt_nonneg (s : ByteArray) (j : Nat) : 0 ≤ bt s j := by unfold bt; split <;> omega
theorem bt_lt (s : ByteArray) (j : Nat) : bt s j < 256 := by
  unfold bt
  split
  · exact byte_lt _
  · omega
theorem bt_tail (s : ByteArray) (j : Nat) : bt (s.extract 1 s.size) j = bt s (j + 1) := by
  unfold bt
  have e : (s.extract 1 s.size).size = s.size - 1 := by rw [ByteArray.size_extract]; omega
  by_cases h : j + 1 < s.size
  · rw [dif_pos h, dif_pos (by omega)]
    congr 2
    rw [ByteArray.getElem_extract]
    congr 1
    omega
  · rw [dif_neg h, dif_neg (by omega)]

/-- Nothing but block B has turned. -/
def Only (B : Nat) (w w' : World) : Prop := w'.os = w.os ∧ w'.tape = w.tape ∧ w'.output = w.output ∧ w'.heap.size = w.heap.size ∧ ∀ k, k ≠ B → w'.heap[k]? = w.heap[k]?
theorem Only.refl (B : Nat) (w : World) : Only B w w := ⟨rfl, rfl, rfl, rfl, fun _ _ => rfl⟩
theorem Only.trans {B : Nat} {a b c : World} (h : Only B a b) (k : Only B b c) : Only B a c :=
  ⟨k.1.trans h.1, k.2.1.trans h.2.1, k.2.2.1.trans h.2.2.1, k.2.2.2.1.trans h.2.2.2.1, fun i hi => (k.2.2.2.2 i hi).trans (h.2.2.2.2 i hi)⟩
theorem Only.setCell {B : Nat} {a w : World} (h : Only B a w) (j : Nat) (u : Value) : Only B a (w.setCell ⟨B, j, none⟩ u) :=
  h.trans ⟨rfl, rfl, rfl, by simp [World.setCell], fun k hk => Below.heap_setCell _ _ _ _ hk⟩
theorem Only.drew {B : Nat} {a w : World} (h : Only B a w) : Only B a w.drew := h
theorem Only.drewN {B : Nat} {a w : World} (h : Only B a w) (n : Nat) : Only B a (w.drewN n) := h
theorem Only.below {B : Nat} {w w' : World} (h : Only B w w') : Below B w w' := ⟨h.1, h.2.1, h.2.2.1, by rw [h.2.2.2.1]; exact Nat.le_refl _, fun k hk => h.2.2.2.2 k (by omega)⟩
theorem Only.own {B base : Nat} {w w' : World} {e : TypeId} {k : IntKind} {v : Value} {xs : List Int} (ho : Own w base e k v xs) (h : Only B w w') (hb : B < base) : Own w' base e k v xs := by
  refine ⟨by rw [h.2.2.2.1]; exact ho.1, ho.2.1, ?_⟩
  rcases ho.2.2 with h0 | ⟨g, cap, cur, hv, hg, hh, r⟩
  · exact .inl h0
  · exact .inr ⟨g, cap, cur, hv, hg, (h.2.2.2.2 g (by omega)).trans hh, r⟩

/-- The reader: its word, how many bits of it are left, the bytes behind it. -/
def Rd (w : World) (B : Nat) (x l : Int) (s : ByteArray) : Prop := w.heap[B]? = some (.cells #[.int .u32 x, .int .i64 l, .string s] 128 (0, 0))
theorem Rd.cells {w : World} {B : Nat} {x l : Int} {s : ByteArray} (hw : Rd w B x l s) :
    w.cell? ⟨B, 0, none⟩ = some (.int .u32 x) ∧ w.cell? ⟨B, 1, none⟩ = some (.int .i64 l) ∧ w.cell? ⟨B, 2, none⟩ = some (.string s) ∧ w.frozen? ⟨B, 0, none⟩ = false ∧ w.frozen? ⟨B, 1, none⟩ = false ∧ w.frozen? ⟨B, 2, none⟩ = false := by
  unfold Rd at hw
  simp [World.cell?, World.frozen?, hw]
theorem Rd.set0 {w : World} {B : Nat} {x l y : Int} {s : ByteArray} (hw : Rd w B x l s) : Rd (w.setCell ⟨B, 0, none⟩ (.int .u32 y)) B y l s := heap_setCell_same w B 0 _ 128 _ hw
theorem Rd.set1 {w : World} {B : Nat} {x l y : Int} {s : ByteArray} (hw : Rd w B x l s) : Rd (w.setCell ⟨B, 1, none⟩ (.int .i64 y)) B x y s := heap_setCell_same w B 1 _ 128 _ hw
theorem Rd.set2 {w : World} {B : Nat} {x l : Int} {s t : ByteArray} (hw : Rd w B x l s) : Rd (w.setCell ⟨B, 2, none⟩ (.string t)) B x l t := heap_setCell_same w B 2 _ 128 _ hw
theorem Rd.drew {w : World} {B : Nat} {x l : Int} {s : ByteArray} (hw : Rd w B x l s) : Rd w.drew B x l s := hw

theorem some_bytes {t : ByteArray} (h : 0 < t.size) : t.toList.isEmpty = false := by
  rw [ByteArray.toList_eq]
  cases h2 : t.data.toList with
  | nil =>
    have h3 : t.data.size = 0 := by simpa using congrArg List.length h2
    have h4 : t.size = t.data.size := rfl
    omega
  | cons => rfl
theorem no_bytes {t : ByteArray} (h : t.size = 0) : t.toList.isEmpty = true := by
  rw [ByteArray.toList_eq]
  have h4 : t.size = t.data.size := rfl
  have h3 : t.data.toList.length = 0 := by rw [Array.length_toList]; omega
  rw [List.length_eq_zero_iff.1 h3]
  rfl

def strLen : Value → Nat | .string s => s.size | _ => 0

/-- The reader with q of N bits read. -/
def RSt (rb : Nat → Int) (N q : Nat) (x : Int) (l : Nat) (s : ByteArray) : Prop :=
  q + l + 8 * s.size = N ∧ l ≤ 32 ∧ 0 ≤ x ∧ x < 4294967296 ∧ x % 2 ^ l = num rb q l ∧ ∀ j, j < s.size → bt s j = num rb (q + l + 8 * j) 8

theorem or_byte (y : Int) (b : UInt8) (h0 : 0 ≤ y) : bits .or .u32 (y * 256 % 4294967296) ((b.toNat : Int) % 4294967296) = y * 256 % 4294967296 + (b.toNat : Int) := by
  have hb := byte_lt b
  rw [show (b.toNat : Int) % 4294967296 = (b.toNat : Int) by omega]
  exact bits_join .u32 32 (by decide) (fun n h0 h1 => by rw [IntKind.wrap_u32]; omega) 8 _ _ (by omega) (by omega) (by omega) (by omega) (by omega) (by omega)

/-- One byte more in the word. -/
theorem fill_step {rb : Nat → Int} (hbit : ∀ j, Bit (rb j)) {N q m : Nat} {y : Int} {t : ByteArray} (hm : m < 4) (ht : 0 < t.size) (h : RSt rb N q y (8 * m) t) :
    RSt rb N q (bits .or .u32 (y * 256 % 4294967296) ((t[0].toNat : Int) % 4294967296)) (8 * (m + 1)) (t.extract 1 t.size) := by
  obtain ⟨h1, h2, h3, h4, h5, h6⟩ := h
  have hb := byte_lt t[0]
  have hs : (t.extract 1 t.size).size = t.size - 1 := by rw [ByteArray.size_extract]; omega
  have hsp := num_split rb q (8 * m) 8
  have hb0 := h6 0 ht
  rw [bt_eq t 0 ht, Nat.mul_zero, Nat.add_zero] at hb0
  have hn0 := num_bd rb hbit q (8 * m)
  rw [or_byte y t[0] h3]
  refine ⟨by rw [hs]; omega, by omega, by omega, by omega, ?_, ?_⟩
  · rw [show 8 * (m + 1) = 8 * m + 8 by omega, hsp, ← hb0]
    have hb1 : (0 : Int) ≤ (t[0].toNat : Int) := by omega
    generalize (t[0].toNat : Int) = b at *
    generalize num rb q (8 * m) = A at *
    have p8 : (2 : Int) ^ 8 = 256 := by decide
    clear hsp h6 hb0
    obtain rfl | rfl | rfl | rfl : m = 0 ∨ m = 1 ∨ m = 2 ∨ m = 3 := by omega
    · rw [show (2 : Int) ^ (8 * 0) = 1 by decide] at h5 hn0
      rw [show (2 : Int) ^ (8 * 0 + 8) = 256 by decide]
      omega
    · rw [show (2 : Int) ^ (8 * 1) = 256 by decide] at h5 hn0
      rw [show (2 : Int) ^ (8 * 1 + 8) = 65536 by decide, p8]
      omega
    · rw [show (2 : Int) ^ (8 * 2) = 65536 by decide] at h5 hn0
      rw [show (2 : Int) ^ (8 * 2 + 8) = 16777216 by decide, p8]
      omega
    · rw [show (2 : Int) ^ (8 * 3) = 16777216 by decide] at h5 hn0
      rw [show (2 : Int) ^ (8 * 3 + 8) = 4294967296 by decide, p8]
      omega
  · intro j hj
    rw [bt_tail, h6 (j + 1) (by omega)]
    congr 1
    omega

theorem fill_round {rb : Nat → Int} (hbit : ∀ j, Bit (rb j)) {B N q m : Nat} {y : Int} {t s : ByteArray} {w wr : World} (hm : m < 4) (ht : 0 < t.size) (hst : RSt rb N q y (8 * m) t) (hwr : Rd wr B y (8 * m) t) (honly : Only B w wr) :
    (∃ (m' : Nat) (y' : Int) (t' : ByteArray), m' ≤ 4 ∧ Hid (RSt rb N q y' (8 * m') t') ∧ Hid (Rd (((wr.setCell ⟨B, 0, none⟩ (.int .u32 (bits .or .u32 (y * 256 % 4294967296) ((t[0].toNat : Int) % 4294967296)))).setCell ⟨B, 1, none⟩ (.int .i64 (8 * (m : Int) + 8))).setCell ⟨B, 2, none⟩ (.string (t.extract 1 t.size))).drew B y' (8 * m') t') ∧ Hid (m' = 0 → t'.size = s.size) ∧
      Hid (Only B w (((wr.setCell ⟨B, 0, none⟩ (.int .u32 (bits .or .u32 (y * 256 % 4294967296) ((t[0].toNat : Int) % 4294967296)))).setCell ⟨B, 1, none⟩ (.int .i64 (8 * (m : Int) + 8))).setCell ⟨B, 2, none⟩ (.string (t.extract 1 t.size))).drew)) ∧
    strLen (((((wr.setCell ⟨B, 0, none⟩ (.int .u32 (bits .or .u32 (y * 256 % 4294967296) ((t[0].toNat : Int) % 4294967296)))).setCell ⟨B, 1, none⟩ (.int .i64 (8 * (m : Int) + 8))).setCell ⟨B, 2, none⟩ (.string (t.extract 1 t.size))).drew.cell? ⟨B, 2, none⟩).getD (.int .i64 0)) < strLen ((wr.cell? ⟨B, 2, none⟩).getD (.int .i64 0)) := by
  have h3 := (((hwr.set0 (y := bits .or .u32 (y * 256 % 4294967296) ((t[0].toNat : Int) % 4294967296))).set1 (y := 8 * (m : Int) + 8)).set2 (t := t.extract 1 t.size)).drew
  refine ⟨⟨m + 1, _, _, by omega, fill_step hbit hm ht hst, ?_, fun h => by omega, (((honly.setCell 0 _).setCell 1 _).setCell 2 _).drew⟩, ?_⟩
  · show Rd _ _ _ _ _
    rw [show (8 : Int) * ((m + 1 : Nat) : Int) = 8 * (m : Int) + 8 by omega]
    exact h3
  · rw [h3.cells.2.2.1, hwr.cells.2.2.1]
    have hs : (t.extract 1 t.size).size = t.size - 1 := by rw [ByteArray.size_extract]; omega
    simp only [Option.getD_some, strLen]
    omega

set_option maxRecDepth 100000 in
set_option maxHeartbeats 3200000 in
theorem fill_any (rb : Nat → Int) (hbit : ∀ j, Bit (rb j)) (B N q : Nat) (x : Int) (s : ByteArray) (w : World) (hN : N ≤ 100000000) (hst : RSt rb N q x 0 s) (hw : Rd w B x 0 s) :
    Calls Try.prog 85 #[.pointer (some ⟨B, 0, none⟩)] w fun e w' => e = .returned (.tuple #[]) ∧ (∃ (x' : Int) (l' : Nat) (s' : ByteArray), RSt rb N q x' l' s' ∧ Rd w' B x' l' s' ∧ (0 < s.size → 0 < l')) ∧ Only B w w' := by
  have HB := hid hbit
  have HS := hid hst
  have HW := hid hw
  clear hbit hst hw
  go_enter Try.func85, Try.ntmps85
  go_wp2
  go_loopw [2] (fun _ wr => ∃ (m : Nat) (y : Int) (t : ByteArray), m ≤ 4 ∧ Hid (RSt rb N q y (8 * m) t) ∧ Hid (Rd wr B y (8 * m) t) ∧ Hid (m = 0 → t.size = s.size) ∧ Hid (Only B w wr)) (fun _ wr => strLen ((wr.cell? ⟨B, 2, none⟩).getD (.int .i64 0)))
  case atStart => exact ⟨0, x, s, by decide, HS.out, HW.out, fun _ => rfl, Only.refl _ _⟩
  case round =>
    obtain ⟨m, y, t, hm, hst, hwr, hms, honly⟩ := hrel
    obtain ⟨c0, c1, c2, f0, f1, f2⟩ := hwr.out.cells
    by_cases hgo : m < 4 ∧ 0 < t.size
    · obtain ⟨hm4, hts⟩ := hgo
      have hlt : (8 * (m : Int)) < 32 := by omega
      have hne := some_bytes hts
      have ht1 : (0 : Int) < (t.size : Int) := by omega
      go_wp2
      go_region
      all_goals
        go_wp2
        exact fill_round HB.out hm4 hts hst.out hwr.out honly.out
    · have hend : (∃ (x' : Int) (l' : Nat) (s' : ByteArray), RSt rb N q x' l' s' ∧ Rd wr B x' l' s' ∧ (0 < s.size → 0 < l')) := by
        refine ⟨y, 8 * m, t, hst.out, by have := hwr.out; rw [show ((8 * m : Nat) : Int) = 8 * (m : Int) by omega]; exact this, fun hs => ?_⟩
        by_cases h0 : m = 0
        · have := hms.out h0
          exfalso
          apply hgo
          omega
        · omega
      have HE := hid hend
      clear hend
      by_cases hm4 : m = 4
      · subst hm4
        clear hgo
        go_wp2
        go_end0
        exact ⟨rfl, HE.out, honly.out⟩
      · have hts : t.size = 0 := by
          by_cases h : t.size = 0
          · exact h
          · exfalso
            apply hgo
            omega
        have hlt : (8 * (m : Int)) < 32 := by omega
        have hne := no_bytes hts
        clear hgo hts
        go_wp2
        go_end0
        exact ⟨rfl, HE.out, honly.out⟩
end Go.Proofs.Ytnnakmgngkpghaa
