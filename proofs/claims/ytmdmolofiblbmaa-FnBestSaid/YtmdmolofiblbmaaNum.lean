/- Contracts of NumBits, of the program and of the specification, with the reader's; plain facts on bits. -/
import Derived.Test.YtmdmolofiblbmaaOkBoth
namespace Go.Proofs.Ytmdmolofiblbmaa
open Go.RowKit
set_option linter.unusedVariables false

def Bit (x : Int) : Prop := x = 0 ∨ x = 1

/-- The number of c bits from place s on. -/
def num (b : Nat → Int) (s : Nat) : Nat → Int
  | 0 => 0
  | c + 1 => 2 * num b s c + b (s + c)

theorem num_bd (b : Nat → Int) (hb : ∀ j, Bit (b j)) (s : Nat) : ∀ c, 0 ≤ num b s c ∧ num b s c < 2 ^ c
  | 0 => by simp [num]
  | c + 1 => by
    have h := num_bd b hb s c
    have e : (2 : Int) ^ (c + 1) = 2 * 2 ^ c := by rw [Int.pow_succ]; omega
    have hbit := hb (s + c)
    rw [e]
    simp only [num]
    rcases hbit with h2 | h2 <;> rw [h2] <;> omega

theorem num_le (b : Nat → Int) (hb : ∀ j, Bit (b j)) (s c m : Nat) (h : c ≤ m) : num b s c < 2 ^ m := by
  have h1 := num_bd b hb s c
  have h2 := pow2_mono c (m - c)
  rw [show c + (m - c) = m by omega] at h2
  omega

/-- The bits of a list; 1 behind its end. -/
def pad (xs : List Int) (j : Nat) : Int := if j < xs.length then xs.getD j 0 else 1

theorem pad_in (xs : List Int) (j : Nat) (h : j < xs.length) : pad xs j = xs.getD j 0 := by unfold pad; rw [if_pos h]

theorem pad_out (xs : List Int) (j : Nat) (h : ¬ j < xs.length) : pad xs j = 1 := by unfold pad; rw [if_neg h]

theorem pad_bit (xs : List Int) (h : ∀ j, j < xs.length → Bit (xs.getD j 0)) (j : Nat) : Bit (pad xs j) := by
  unfold pad
  split
  · exact h j (by assumption)
  · exact .inr rfl

/-- The writer: its word, how many bits it holds, what has been written. -/
def Wr (w : World) (B : Nat) (x h : Int) (v : Value) : Prop := w.heap[B]? = some (.cells #[.int .u32 x, .int .i64 h, v] 51 (0, 0))

theorem Wr.cells {w : World} {B : Nat} {x h : Int} {v : Value} (hw : Wr w B x h v) :
    w.cell? ⟨B, 0, none⟩ = some (.int .u32 x) ∧ w.cell? ⟨B, 1, none⟩ = some (.int .i64 h) ∧ w.cell? ⟨B, 2, none⟩ = some v ∧ w.frozen? ⟨B, 0, none⟩ = false ∧ w.frozen? ⟨B, 1, none⟩ = false ∧ w.frozen? ⟨B, 2, none⟩ = false := by
  unfold Wr at hw
  simp [World.cell?, World.frozen?, hw]

theorem Wr.set0 {w : World} {B : Nat} {x h y : Int} {v : Value} (hw : Wr w B x h v) : Wr (w.setCell ⟨B, 0, none⟩ (.int .u32 y)) B y h v := heap_setCell_same w B 0 _ 51 _ hw

theorem Wr.set1 {w : World} {B : Nat} {x h y : Int} {v : Value} (hw : Wr w B x h v) : Wr (w.setCell ⟨B, 1, none⟩ (.int .i64 y)) B x y v := heap_setCell_same w B 1 _ 51 _ hw

theorem Wr.set2 {w : World} {B : Nat} {x h : Int} {v u : Value} (hw : Wr w B x h v) : Wr (w.setCell ⟨B, 2, none⟩ u) B x h u := heap_setCell_same w B 2 _ 51 _ hw

theorem or_bit (x b : Int) (h0 : 0 ≤ x) (h1 : x < 2147483648) (hb : Bit b) : bits .or .u32 (x * 2) b = 2 * x + b := by
  rw [bits_join .u32 32 (by decide) (fun n h0 h1 => by rw [IntKind.wrap_u32]; omega) 1 (x * 2) b (by omega) (by omega) (by omega) (by rcases hb with h | h <;> omega) (by rcases hb with h | h <;> omega) (by rcases hb with h | h <;> omega)]
  omega

theorem num_split (b : Nat → Int) (s a : Nat) : ∀ c, num b s (a + c) = num b s a * 2 ^ c + num b (s + a) c
  | 0 => by simp [num]
  | c + 1 => by
    have h := num_split b s a c
    have e : (2 : Int) ^ (c + 1) = 2 * 2 ^ c := by rw [Int.pow_succ]; omega
    have e2 : s + (a + c) = s + a + c := by omega
    rw [show a + (c + 1) = (a + c) + 1 by omega, num, h, num, e, e2]
    generalize (2 : Int) ^ c = p
    generalize num b s a = q
    have e3 : q * (2 * p) = 2 * (q * p) := by rw [← Int.mul_assoc, Int.mul_comm q 2, Int.mul_assoc]
    rw [e3]
    omega

/-- The first J whole bytes. -/
def packTo (b : Nat → Int) : Nat → List Int
  | 0 => []
  | J + 1 => packTo b J ++ [num b (8 * J) 8]

theorem packTo_length (b : Nat → Int) : ∀ J, (packTo b J).length = J
  | 0 => rfl
  | J + 1 => by simp [packTo, packTo_length b J]

theorem Wr.below {w w' : World} {B : Nat} {x h : Int} {v : Value} (hw : Wr w B x h v) (hb : Below (B + 1) w w') : Wr w' B x h v := (hb.block B (by omega)).trans hw

theorem Wr.drew {w : World} {B : Nat} {x h : Int} {v : Value} (hw : Wr w B x h v) : Wr w.drew B x h v := hw

/-- The byte that is taken out of the word. -/
theorem byte_of (b : Nat → Int) (hb : ∀ j, Bit (b j)) (J t m : Nat) (x : Int) (hx : x = num b (8 * J) (8 * (t + (m + 1)))) : ∃ A D R : Int, D = num b (8 * (J + t)) 8 ∧ 0 ≤ A ∧ 0 ≤ D ∧ D < 256 ∧ 0 ≤ R ∧ R < 2 ^ (8 * m) ∧ x = A * 2 ^ (8 * (m + 1)) + (D * 2 ^ (8 * m) + R) := by
  have h1 := num_split b (8 * J) (8 * t) (8 * (m + 1))
  have h2 := num_split b (8 * (J + t)) 8 (8 * m)
  rw [show 8 * t + 8 * (m + 1) = 8 * (t + (m + 1)) by omega, show 8 * J + 8 * t = 8 * (J + t) by omega] at h1
  rw [show 8 + 8 * m = 8 * (m + 1) by omega] at h2
  refine ⟨num b (8 * J) (8 * t), num b (8 * (J + t)) 8, num b (8 * (J + t) + 8) (8 * m), rfl, (num_bd b hb _ _).1, (num_bd b hb _ 8).1, (num_bd b hb _ 8).2, (num_bd b hb _ _).1, (num_bd b hb _ (8 * m)).2, ?_⟩
  rw [hx, h1, h2]

/-- What one round of flush comes to. -/
theorem flush_round {b : Nat → Int} {B J t m c : Nat} {x y h : Int} {v V : Value} {w wr w1 : World} (hbr : Below B w wr) (u : Value) (hwS : Wr (wr.setCell ⟨B, 1, none⟩ u) B x h v) (hh : h = 8 * (m : Int)) (htm : Hid (t + (m + 1) = c))
    (hown1 : Own w1 (B + 1) 5 .u8 V (packTo b (J + t) ++ [y])) (hb1 : Below (B + 1) (wr.setCell ⟨B, 1, none⟩ u).drew w1) (hy : y = num b (8 * (J + t)) 8) (c1 : wr.cell? ⟨B, 1, none⟩ = some (.int .i64 (8 * ((m + 1 : Nat) : Int)))) :
    (∃ (t' m' : Nat) (v' : Value), Hid (t' + m' = c) ∧ Wr (w1.setCell ⟨B, 2, none⟩ V) B x (8 * (m' : Int)) v' ∧ Own (w1.setCell ⟨B, 2, none⟩ V) (B + 1) 5 .u8 v' (packTo b (J + t')) ∧ Below B w (w1.setCell ⟨B, 2, none⟩ V)) ∧
    (intOf (((w1.setCell ⟨B, 2, none⟩ V).cell? ⟨B, 1, none⟩).getD (.int .i64 0))).toNat < (intOf ((wr.cell? ⟨B, 1, none⟩).getD (.int .i64 0))).toNat := by
  subst hh
  have hw2 : Wr (w1.setCell ⟨B, 2, none⟩ V) B x (8 * (m : Int)) V := ((hwS.drew).below hb1).set2
  refine ⟨⟨t + 1, m, V, ?_, hw2, ?_, ?_⟩, ?_⟩
  · show _ = _
    have := htm.out
    omega
  · have := hown1.setCell_below (a := ⟨B, 2, none⟩) (by show B < B + 1; omega) V
    rw [hy] at this
    exact this
  · exact (((hbr.setCell (p := ⟨B, 1, none⟩) (Nat.le_refl _) u).drew).trans (hb1.mono (by omega))).setCell (p := ⟨B, 2, none⟩) (Nat.le_refl _) V
  · rw [hw2.cells.2.1, c1]
    simp [intOf]
    omega

/-- The byte at a place; 0 where there is none. -/
def bt (s : ByteArray) (j : Nat) : Int := if h : j < s.size then (s[j].toNat : Int) else 0

theorem bt_eq (s : ByteArray) (j : Nat) (h : j < s.size) : bt s j = (s[j].toNat : Int) := by simp [bt, h]

theorem bt_nonneg (s : ByteArray) (j : Nat) : 0 ≤ bt s j := by unfold bt; split <;> omega

theorem bt_lt (s : ByteArray) (j : Nat) : bt s j < 256 := by
  unfold bt
  split
  · exact byte_lt _
  · omega

theorem bt_tail (s : ByteArray) (j : Nat) : bt (s.extract 1 s.size) j = bt s (j + 1) := by
  unfold bt
  have e : (s.extract 1 s.size).size = s.size - 1 := by rw [ByteArray.size_extract]; omega
  by_cases h : j + 1 < s.size
  · rw [dif_pos h, dif_pos (by omega)]
    congr 2
    rw [ByteArray.getElem_extract]
    congr 1
    omega
  · rw [dif_neg h, dif_neg (by omega)]

/-- Nothing but block B has turned. -/
def Only (B : Nat) (w w' : World) : Prop := w'.os = w.os ∧ w'.tape = w.tape ∧ w'.output = w.output ∧ w'.heap.size = w.heap.size ∧ ∀ k, k ≠ B → w'.heap[k]? = w.heap[k]?

theorem Only.refl (B : Nat) (w : World) : Only B w w := ⟨rfl, rfl, rfl, rfl, fun _ _ => rfl⟩

theorem Only.trans {B : Nat} {a b c : World} (h : Only B a b) (k : Only B b c) : Only B a c :=
  ⟨k.1.trans h.1, k.2.1.trans h.2.1, k.2.2.1.trans h.2.2.1, k.2.2.2.1.trans h.2.2.2.1, fun i hi => (k.2.2.2.2 i hi).trans (h.2.2.2.2 i hi)⟩

theorem Only.setCell {B : Nat} {a w : World} (h : Only B a w) (j : Nat) (u : Value) : Only B a (w.setCell ⟨B, j, none⟩ u) :=
  h.trans ⟨rfl, rfl, rfl, by simp [World.setCell], fun k hk => Below.heap_setCell _ _ _ _ hk⟩

theorem Only.drew {B : Nat} {a w : World} (h : Only B a w) : Only B a w.drew := h

theorem Only.drewN {B : Nat} {a w : World} (h : Only B a w) (n : Nat) : Only B a (w.drewN n) := h

theorem Only.below {B : Nat} {w w' : World} (h : Only B w w') : Below B w w' := ⟨h.1, h.2.1, h.2.2.1, by rw [h.2.2.2.1]; exact Nat.le_refl _, fun k hk => h.2.2.2.2 k (by omega)⟩

theorem Only.own {B base : Nat} {w w' : World} {e : TypeId} {k : IntKind} {v : Value} {xs : List Int} (ho : Own w base e k v xs) (h : Only B w w') (hb : B < base) : Own w' base e k v xs := by
  refine ⟨by rw [h.2.2.2.1]; exact ho.1, ho.2.1, ?_⟩
  rcases ho.2.2 with h0 | ⟨g, cap, cur, hv, hg, hh, r⟩
  · exact .inl h0
  · exact .inr ⟨g, cap, cur, hv, hg, (h.2.2.2.2 g (by omega)).trans hh, r⟩

/-- The reader: its word, how many bits of it are left, the bytes behind it. -/
def Rd (w : World) (B : Nat) (x l : Int) (s : ByteArray) : Prop := w.heap[B]? = some (.cells #[.int .u32 x, .int .i64 l, .string s] 103 (0, 0))

theorem Rd.cells {w : World} {B : Nat} {x l : Int} {s : ByteArray} (hw : Rd w B x l s) :
    w.cell? ⟨B, 0, none⟩ = some (.int .u32 x) ∧ w.cell? ⟨B, 1, none⟩ = some (.int .i64 l) ∧ w.cell? ⟨B, 2, none⟩ = some (.string s) ∧ w.frozen? ⟨B, 0, none⟩ = false ∧ w.frozen? ⟨B, 1, none⟩ = false ∧ w.frozen? ⟨B, 2, none⟩ = false := by
  unfold Rd at hw
  simp [World.cell?, World.frozen?, hw]

theorem Rd.set0 {w : World} {B : Nat} {x l y : Int} {s : ByteArray} (hw : Rd w B x l s) : Rd (w.setCell ⟨B, 0, none⟩ (.int .u32 y)) B y l s := heap_setCell_same w B 0 _ 103 _ hw

theorem Rd.set1 {w : World} {B : Nat} {x l y : Int} {s : ByteArray} (hw : Rd w B x l s) : Rd (w.setCell ⟨B, 1, none⟩ (.int .i64 y)) B x y s := heap_setCell_same w B 1 _ 103 _ hw

theorem Rd.set2 {w : World} {B : Nat} {x l : Int} {s t : ByteArray} (hw : Rd w B x l s) : Rd (w.setCell ⟨B, 2, none⟩ (.string t)) B x l t := heap_setCell_same w B 2 _ 103 _ hw

theorem Rd.drew {w : World} {B : Nat} {x l : Int} {s : ByteArray} (hw : Rd w B x l s) : Rd w.drew B x l s := hw

theorem some_bytes {t : ByteArray} (h : 0 < t.size) : t.toList.isEmpty = false := by
  rw [ByteArray.toList_eq]
  cases h2 : t.data.toList with
  | nil =>
    have h3 : t.data.size = 0 := by simpa using congrArg List.length h2
    have h4 : t.size = t.data.size := rfl
    omega
  | cons => rfl

theorem no_bytes {t : ByteArray} (h : t.size = 0) : t.toList.isEmpty = true := by
  rw [ByteArray.toList_eq]
  have h4 : t.size = t.data.size := rfl
  have h3 : t.data.toList.length = 0 := by rw [Array.length_toList]; omega
  rw [List.length_eq_zero_iff.1 h3]
  rfl

def strLen : Value → Nat | .string s => s.size | _ => 0

/-- The reader with q of N bits read. -/
def RSt (rb : Nat → Int) (N q : Nat) (x : Int) (l : Nat) (s : ByteArray) : Prop :=
  q + l + 8 * s.size = N ∧ l ≤ 32 ∧ 0 ≤ x ∧ x < 4294967296 ∧ x % 2 ^ l = num rb q l ∧ ∀ j, j < s.size → bt s j = num rb (q + l + 8 * j) 8

theorem or_byte (y : Int) (b : UInt8) (h0 : 0 ≤ y) : bits .or .u32 (y * 256 % 4294967296) ((b.toNat : Int) % 4294967296) = y * 256 % 4294967296 + (b.toNat : Int) := by
  have hb := byte_lt b
  rw [show (b.toNat : Int) % 4294967296 = (b.toNat : Int) by omega]
  exact bits_join .u32 32 (by decide) (fun n h0 h1 => by rw [IntKind.wrap_u32]; omega) 8 _ _ (by omega) (by omega) (by omega) (by omega) (by omega) (by omega)

/-- One byte more in the word. -/
theorem fill_step {rb : Nat → Int} (hbit : ∀ j, Bit (rb j)) {N q m : Nat} {y : Int} {t : ByteArray} (hm : m < 4) (ht : 0 < t.size) (h : RSt rb N q y (8 * m) t) :
    RSt rb N q (bits .or .u32 (y * 256 % 4294967296) ((t[0].toNat : Int) % 4294967296)) (8 * (m + 1)) (t.extract 1 t.size) := by
  obtain ⟨h1, h2, h3, h4, h5, h6⟩ := h
  have hb := byte_lt t[0]
  have hs : (t.extract 1 t.size).size = t.size - 1 := by rw [ByteArray.size_extract]; omega
  have hsp := num_split rb q (8 * m) 8
  have hb0 := h6 0 ht
  rw [bt_eq t 0 ht, Nat.mul_zero, Nat.add_zero] at hb0
  have hn0 := num_bd rb hbit q (8 * m)
  rw [or_byte y t[0] h3]
  refine ⟨by rw [hs]; omega, by omega, by omega, by omega, ?_, ?_⟩
  · rw [show 8 * (m + 1) = 8 * m + 8 by omega, hsp, ← hb0]
    have hb1 : (0 : Int) ≤ (t[0].toNat : Int) := by omega
    generalize (t[0].toNat : Int) = b at *
    generalize num rb q (8 * m) = A at *
    have p8 : (2 : Int) ^ 8 = 256 := by decide
    clear hsp h6 hb0
    obtain rfl | rfl | rfl | rfl : m = 0 ∨ m = 1 ∨ m = 2 ∨ m = 3 := by omega
    · rw [show (2 : Int) ^ (8 * 0) = 1 by decide] at h5 hn0
      rw [show (2 : Int) ^ (8 * 0 + 8) = 256 by decide]
      omega
    · rw [show (2 : Int) ^ (8 * 1) = 256 by decide] at h5 hn0
      rw [show (2 : Int) ^ (8 * 1 + 8) = 65536 by decide, p8]
      omega
    · rw [show (2 : Int) ^ (8 * 2) = 65536 by decide] at h5 hn0
      rw [show (2 : Int) ^ (8 * 2 + 8) = 16777216 by decide, p8]
      omega
    · rw [show (2 : Int) ^ (8 * 3) = 16777216 by decide] at h5 hn0
      rw [show (2 : Int) ^ (8 * 3 + 8) = 4294967296 by decide, p8]
      omega
  · intro j hj
    rw [bt_tail, h6 (j + 1) (by omega)]
    congr 1
    omega

theorem fill_round {rb : Nat → Int} (hbit : ∀ j, Bit (rb j)) {B N q m : Nat} {y : Int} {t s : ByteArray} {w wr : World} (hm : m < 4) (ht : 0 < t.size) (hst : RSt rb N q y (8 * m) t) (hwr : Rd wr B y (8 * m) t) (honly : Only B w wr) :
    (∃ (m' : Nat) (y' : Int) (t' : ByteArray), m' ≤ 4 ∧ Hid (RSt rb N q y' (8 * m') t') ∧ Hid (Rd (((wr.setCell ⟨B, 0, none⟩ (.int .u32 (bits .or .u32 (y * 256 % 4294967296) ((t[0].toNat : Int) % 4294967296)))).setCell ⟨B, 1, none⟩ (.int .i64 (8 * (m : Int) + 8))).setCell ⟨B, 2, none⟩ (.string (t.extract 1 t.size))).drew B y' (8 * m') t') ∧ Hid (m' = 0 → t'.size = s.size) ∧
      Hid (Only B w (((wr.setCell ⟨B, 0, none⟩ (.int .u32 (bits .or .u32 (y * 256 % 4294967296) ((t[0].toNat : Int) % 4294967296)))).setCell ⟨B, 1, none⟩ (.int .i64 (8 * (m : Int) + 8))).setCell ⟨B, 2, none⟩ (.string (t.extract 1 t.size))).drew)) ∧
    strLen (((((wr.setCell ⟨B, 0, none⟩ (.int .u32 (bits .or .u32 (y * 256 % 4294967296) ((t[0].toNat : Int) % 4294967296)))).setCell ⟨B, 1, none⟩ (.int .i64 (8 * (m : Int) + 8))).setCell ⟨B, 2, none⟩ (.string (t.extract 1 t.size))).drew.cell? ⟨B, 2, none⟩).getD (.int .i64 0)) < strLen ((wr.cell? ⟨B, 2, none⟩).getD (.int .i64 0)) := by
  have h3 := (((hwr.set0 (y := bits .or .u32 (y * 256 % 4294967296) ((t[0].toNat : Int) % 4294967296))).set1 (y := 8 * (m : Int) + 8)).set2 (t := t.extract 1 t.size)).drew
  refine ⟨⟨m + 1, _, _, by omega, fill_step hbit hm ht hst, ?_, fun h => by omega, (((honly.setCell 0 _).setCell 1 _).setCell 2 _).drew⟩, ?_⟩
  · show Rd _ _ _ _ _
    rw [show (8 : Int) * ((m + 1 : Nat) : Int) = 8 * (m : Int) + 8 by omega]
    exact h3
  · rw [h3.cells.2.2.1, hwr.cells.2.2.1]
    have hs : (t.extract 1 t.size).size = t.size - 1 := by rw [ByteArray.size_extract]; omega
    simp only [Option.getD_some, strLen]
    omega

set_option maxRecDepth 100000 in
set_option maxHeartbeats 3200000 in
theorem fill_any (rb : Nat → Int) (hbit : ∀ j, Bit (rb j)) (B N q : Nat) (x : Int) (s : ByteArray) (w : World) (hN : N ≤ 100000000) (hst : RSt rb N q x 0 s) (hw : Rd w B x 0 s) :
    Calls Try.prog 74 #[.pointer (some ⟨B, 0, none⟩)] w fun e w' => e = .returned (.tuple #[]) ∧ (∃ (x' : Int) (l' : Nat) (s' : ByteArray), RSt rb N q x' l' s' ∧ Rd w' B x' l' s' ∧ (0 < s.size → 0 < l')) ∧ Only B w w' := by
  have HB := hid hbit
  have HS := hid hst
  have HW := hid hw
  clear hbit hst hw
  go_enter Try.func74, Try.ntmps74
  go_wp2
  go_loopw [2] (fun _ wr => ∃ (m : Nat) (y : Int) (t : ByteArray), m ≤ 4 ∧ Hid (RSt rb N q y (8 * m) t) ∧ Hid (Rd wr B y (8 * m) t) ∧ Hid (m = 0 → t.size = s.size) ∧ Hid (Only B w wr)) (fun _ wr => strLen ((wr.cell? ⟨B, 2, none⟩).getD (.int .i64 0)))
  case atStart => exact ⟨0, x, s, by decide, HS.out, HW.out, fun _ => rfl, Only.refl _ _⟩
  case round =>
    obtain ⟨m, y, t, hm, hst, hwr, hms, honly⟩ := hrel
    obtain ⟨c0, c1, c2, f0, f1, f2⟩ := hwr.out.cells
    by_cases hgo : m < 4 ∧ 0 < t.size
    · obtain ⟨hm4, hts⟩ := hgo
      have hlt : (8 * (m : Int)) < 32 := by omega
      have hne := some_bytes hts
      have ht1 : (0 : Int) < (t.size : Int) := by omega
      go_wp2
      go_region
      all_goals
        go_wp2
        exact fill_round HB.out hm4 hts hst.out hwr.out honly.out
    · have hend : (∃ (x' : Int) (l' : Nat) (s' : ByteArray), RSt rb N q x' l' s' ∧ Rd wr B x' l' s' ∧ (0 < s.size → 0 < l')) := by
        refine ⟨y, 8 * m, t, hst.out, by have := hwr.out; rw [show ((8 * m : Nat) : Int) = 8 * (m : Int) by omega]; exact this, fun hs => ?_⟩
        by_cases h0 : m = 0
        · have := hms.out h0
          exfalso
          apply hgo
          omega
        · omega
      have HE := hid hend
      clear hend
      by_cases hm4 : m = 4
      · subst hm4
        clear hgo
        go_wp2
        go_end0
        exact ⟨rfl, HE.out, honly.out⟩
      · have hts : t.size = 0 := by
          by_cases h : t.size = 0
          · exact h
          · exfalso
            apply hgo
            omega
        have hlt : (8 * (m : Int)) < 32 := by omega
        have hne := no_bytes hts
        clear hgo hts
        go_wp2
        go_end0
        exact ⟨rfl, HE.out, honly.out⟩

theorem split_bit (x p c R : Int) (hp : 0 < p) (hc : Bit c) (h0 : 0 ≤ R) (h1 : R < p) (h : x % (2 * p) = c * p + R) : x / p % 2 = c ∧ x % p = R := by
  have hk := Int.emod_add_mul_ediv x (2 * p)
  rw [h] at hk
  have e : x = R + p * (2 * (x / (2 * p)) + c) := by
    rw [Int.mul_add, ← Int.mul_assoc, Int.mul_comm p 2, Int.mul_comm p c]
    omega
  generalize x / (2 * p) = k at *
  have e1 : x / p = 2 * k + c := by
    rw [e, Int.add_mul_ediv_left _ _ (by omega), Int.ediv_eq_zero_of_lt h0 h1]
    omega
  have e2 : x % p = R := by
    rw [e, Int.add_mul_emod_self_left, Int.emod_eq_of_lt h0 h1]
  refine ⟨?_, e2⟩
  rw [e1]
  rcases hc with hc | hc <;> rw [hc] <;> omega

theorem next_step {rb : Nat → Int} (hbit : ∀ j, Bit (rb j)) {N q l : Nat} {x : Int} {s : ByteArray} (h : RSt rb N q x (l + 1) s) : RSt rb N (q + 1) x l s ∧ x / 2 ^ l % 2 = rb q := by
  obtain ⟨h1, h2, h3, h4, h5, h6⟩ := h
  have hsp := num_split rb q 1 l
  have e1 : num rb q 1 = rb q := by rw [num, num]; simp
  rw [e1, show 1 + l = l + 1 by omega] at hsp
  have hR := num_bd rb hbit (q + 1) l
  have e : (2 : Int) ^ (l + 1) = 2 * 2 ^ l := by rw [Int.pow_succ]; omega
  rw [hsp, e] at h5
  have hs := split_bit x (2 ^ l) (rb q) _ (Int.pow_pos (by decide)) (hbit q) hR.1 hR.2 h5
  refine ⟨⟨by omega, by omega, h3, h4, hs.2, fun j hj => ?_⟩, hs.1⟩
  rw [h6 j hj]
  congr 1
  omega

theorem and_one (x : Int) (l : Nat) (b : Int) (h0 : 0 ≤ x) (h1 : x < 4294967296) (h : x / 2 ^ l % 2 = b) : wrap64 (bits .and .u32 (x / 2 ^ l) 1) = b := by
  have hp : (0 : Int) < 2 ^ l := Int.pow_pos (by decide)
  have d0 : 0 ≤ x / 2 ^ l := Int.ediv_nonneg h0 (by omega)
  have d1 : x / 2 ^ l ≤ x := Int.ediv_le_self _ h0
  have hm := bits_mask .u32 32 (by decide) (fun n h0 h1 => by rw [IntKind.wrap_u32]; omega) 1 (by decide) (x / 2 ^ l) d0 (by omega)
  have e1 : (2 : Int) ^ 1 - 1 = 1 := by decide
  have e2 : (2 : Int) ^ 1 = 2 := by decide
  rw [e1, e2, h] at hm
  rw [hm, w64 (by omega) (by omega)]

set_option maxHeartbeats 800000 in
theorem next_some (rb : Nat → Int) (hbit : ∀ j, Bit (rb j)) (B N q l : Nat) (x : Int) (s : ByteArray) (w : World) (hst : RSt rb N q x (l + 1) s) (hw : Rd w B x ((l : Int) + 1) s) :
    Calls Try.prog 73 #[.pointer (some ⟨B, 0, none⟩)] w fun e w' => e = .returned (.int .i64 (rb q)) ∧ Rd w' B x l s ∧ Only B w w' := by
  obtain ⟨c0, c1, c2, f0, f1, f2⟩ := hw.cells
  have hq : ((l : Int) + 1 == 0) = false := by simp; omega
  have h32 : l + 1 ≤ 32 := hst.2.1
  have x0 := hst.2.2.1
  have x1 := hst.2.2.2.1
  have HV := hid (next_step hbit hst).2
  have HW := hid hw
  clear hst hw hbit
  go_enter Try.func73, Try.ntmps73
  go_wp2
  go_quiet (fail)
  go_wp2
  go_ret
  exact ⟨ret_int (and_one x l _ x0 x1 HV.out), HW.out.set1, ((Only.refl _ _).setCell 1 _).drewN _⟩

set_option maxHeartbeats 800000 in
theorem next_none (rb : Nat → Int) (hbit : ∀ j, Bit (rb j)) (B N q : Nat) (x : Int) (s : ByteArray) (w : World) (hN : N ≤ 100000000) (hpos : 0 < s.size) (hst : RSt rb N q x 0 s) (hw : Rd w B x 0 s) :
    Calls Try.prog 73 #[.pointer (some ⟨B, 0, none⟩)] w fun e w' => e = .returned (.int .i64 (rb q)) ∧ (∃ (x' : Int) (l' : Nat) (s' : ByteArray), RSt rb N (q + 1) x' l' s' ∧ Rd w' B x' l' s') ∧ Only B w w' := by
  obtain ⟨c0, c1, c2, f0, f1, f2⟩ := hw.cells
  have HF := hid (fill_any rb hbit B N q x s w hN hst hw)
  have HB := hid hbit
  clear hst hw hbit
  go_enter Try.func73, Try.ntmps73
  go_wp2_with fail
  refine HF.out.mono ?_
  rintro e w1 ⟨rfl, ⟨y, l, t, hst1, hw1, hl⟩, ho1⟩
  obtain ⟨l, rfl⟩ : ∃ k, l = k + 1 := ⟨l - 1, by have := hl hpos; omega⟩
  have h32 : l + 1 ≤ 32 := hst1.2.1
  have y0 := hst1.2.2.1
  have y1 := hst1.2.2.2.1
  have HS := hid (next_step HB.out hst1)
  rw [show ((l + 1 : Nat) : Int) = (l : Int) + 1 by omega] at hw1
  have HW := hid hw1
  obtain ⟨d0, d1, d2, g0, g1, g2⟩ := hw1.cells
  clear hst1 hw1 hl c0 c1 c2 f0 f1 f2
  go_wp2
  go_quiet (fail)
  go_wp2
  go_ret
  exact ⟨ret_int (and_one y l _ y0 y1 HS.out.2), ⟨y, l, t, HS.out.1, HW.out.set1⟩, (ho1.setCell 1 _).drewN _⟩

/-- Behind q of N bits. -/
def RInv (rb : Nat → Int) (w : World) (B N q : Nat) : Prop := ∃ (x : Int) (l : Nat) (s : ByteArray), RSt rb N q x l s ∧ Rd w B x l s

theorem next_any (rb : Nat → Int) (hbit : ∀ j, Bit (rb j)) (B N q : Nat) (w : World) (hN : N ≤ 100000000) (hq : q < N) (hi : RInv rb w B N q) :
    Calls Try.prog 73 #[.pointer (some ⟨B, 0, none⟩)] w fun e w' => e = .returned (.int .i64 (rb q)) ∧ RInv rb w' B N (q + 1) ∧ Only B w w' := by
  obtain ⟨x, l, s, hst, hw⟩ := hi
  by_cases h0 : l = 0
  · subst h0
    exact next_none rb hbit B N q x s w hN (by have := hst.1; omega) hst hw
  · obtain ⟨k, rfl⟩ : ∃ k, l = k + 1 := ⟨l - 1, by omega⟩
    rw [show ((k + 1 : Nat) : Int) = (k : Int) + 1 by omega] at hw
    refine (next_some rb hbit B N q k x s w hst hw).mono ?_
    rintro e w' ⟨rfl, hw', ho⟩
    exact ⟨rfl, ⟨x, k, s, (next_step hbit hst).1, hw'⟩, ho⟩

/-- The first k bits. -/
def bl (rb : Nat → Int) : Nat → List Int
  | 0 => []
  | k + 1 => bl rb k ++ [rb k]

theorem bl_length (rb : Nat → Int) : ∀ k, (bl rb k).length = k
  | 0 => rfl
  | k + 1 => by simp [bl, bl_length rb k]

theorem bl_get (rb : Nat → Int) : ∀ k j, j < k → (bl rb k).getD j 0 = rb j
  | k + 1, j, h => by
    have hl := bl_length rb k
    by_cases e : j = k
    · subst e
      simp [bl, List.getD, hl]
    · have := bl_get rb k j (by omega)
      simp only [bl, List.getD] at this ⊢
      rw [List.getElem?_append_left (by omega)]
      exact this

set_option maxHeartbeats 1600000 in
theorem all_any (rb : Nat → Int) (hbit : ∀ j, Bit (rb j)) (B N : Nat) (x : Int) (l : Nat) (s : ByteArray) (w : World) (hN : N ≤ 100000000) (hst : RSt rb N 0 x l s) (hw : Rd w B x l s) :
    Calls Try.prog 68 #[.pointer (some ⟨B, 0, none⟩)] w fun e w' => ∃ v, e = .returned v ∧ Own w' (B + 1) 3 .i64 v (bl rb N) ∧ Below B w w' := by
  obtain ⟨c0, c1, c2, f0, f1, f2⟩ := hw.cells
  have hBlt : B + 1 ≤ w.heap.size := lt_of_block hw
  have hNl : (l : Int) + 8 * (s.size : Int) = (N : Int) := by have := hst.1; omega
  have hl32 := hst.2.1
  have HI := hid (show RInv rb w B N 0 from ⟨x, l, s, hst, hw⟩)
  have HB := hid hbit
  have HN := hid hNl
  have w8 : IntKind.i64.wrap (8 * (s.size : Int)) = 8 * (s.size : Int) := by rw [IntKind.wrap_i64]; omega
  have w9 : IntKind.i64.wrap ((l : Int) + 8 * (s.size : Int)) = (N : Int) := by rw [IntKind.wrap_i64]; omega
  clear hst hw hbit hNl
  go_enter Try.func68, Try.ntmps68
  go_wp2
  go_quiet (fail)
  clear w8 w9 c0 c1 c2 f0 f1 f2
  go_wp2_with (at_make; refine wpList_mkn (w.drewN nq) rfl _ _ 24 rfl (B + 1) 3 .i64 8 Try.underlying24 Try.info3 _ _ N rfl rfl (by omega) (by decide) hBlt ?_)
  intro w0 hown0 hb0
  have HO := hid hown0
  clear hown0
  go_wp2
  go_loopw [21] (fun i wr => ∃ (k : Nat) (ys : List Int), k ≤ N ∧ i = .int .i64 k ∧ Hid (RInv rb wr B N k) ∧ Own wr (B + 1) 3 .i64 (.slice (some ⟨w.heap.size, 0, none⟩) N N) ys ∧ Hid (ys.length = N ∧ ∀ j, j < k → ys.getD j 0 = rb j) ∧ Hid (Below B w wr)) (fun i _ => N - (intOf i).toNat)
  case atStart =>
    refine ⟨0, _, by omega, rfl, ?_, HO.out, ⟨by simp, fun j hj => by omega⟩, ?_⟩
    · obtain ⟨x, l, s, h1, h2⟩ := HI.out
      exact ⟨x, l, s, h1, (hb0.block B (by omega)).trans h2⟩
    · exact (belowN (Below.refl _ _) nq).trans (hb0.mono (by omega))
  case round =>
    obtain ⟨k, ys, hk, rfl, hinv, hown, hys, hb⟩ := hrel
    clear hb0
    by_cases hlt : k < N
    · go_wp2_with fail
      refine (next_any rb HB.out B N k _ hN hlt hinv.out).mono ?_
      rintro e w1 ⟨rfl, hinv1, ho1⟩
      have hown1 := Only.own hown ho1 (by omega)
      have HI1 := hid hinv1
      have HO1 := hid ho1
      have hold := hown1.at k (by have := hys.out.1; omega)
      have hfree := hown1.free k
      have HNEW := hid (hown1.store k (rb k))
      generalize ys.getD k 0 = Y at *
      clear hinv1 ho1 hown
      have HOWN1 := hid hown1
      clear hown1
      go_wp2
      go_roundw
      case rel =>
        refine ⟨k + 1, _, by omega, by go_num, ?_, HNEW.out, ⟨by simp; exact hys.out.1, fun j hj => ?_⟩, ?_⟩
        · obtain ⟨x, l, s, h1, h2⟩ := HI1.out
          exact ⟨x, l, s, h1, (Below.heap_setCell _ _ _ _ (by show B ≠ w.heap.size; omega)).trans h2⟩
        · by_cases e : j = k
          · subst e
            simp [List.getD, hys.out.1, hlt]
          · rw [← hys.out.2 j (by omega)]
            simp [List.getD, show k ≠ j from fun h => e h.symm]
        · exact (hb.out.trans HO1.out.below).setCell (p := ⟨w.heap.size, k, none⟩) (by show B ≤ w.heap.size; omega) _
      case measure => simp [intOf]; omega
    · obtain rfl : k = N := by omega
      have hxy : ys = bl rb k := list_eq_of_getD (by rw [hys.out.1, bl_length]) (fun i hi => by rw [hys.out.2 i (by rw [← hys.out.1]; exact hi), bl_get rb k i (by rw [← hys.out.1]; exact hi)])
      subst hxy
      go_wp2
      go_ret
      exact ⟨_, rfl, hown, hb.out⟩

theorem Own.lower {k : IntKind} {w : World} {base base' : Nat} {e : TypeId} {v : Value} {xs : List Int} (h : Own w base e k v xs) (hb : base' ≤ base) : Own w base' e k v xs := by
  refine ⟨Nat.le_trans hb h.1, h.2.1, ?_⟩
  rcases h.2.2 with h0 | ⟨g, cap, cur, hv, hg, r⟩
  · exact .inl h0
  · exact .inr ⟨g, cap, cur, hv, Nat.le_trans hb hg, r⟩

/-- The bits of a text. -/
def rbS (s : ByteArray) (j : Nat) : Int := bt s (j / 8) / 2 ^ (7 - j % 8) % 2

theorem rbS_bit (s : ByteArray) (j : Nat) : Bit (rbS s j) := by unfold rbS Bit; omega

theorem rbS_at (s : ByteArray) (j t : Nat) (h : t < 8) : rbS s (8 * j + t) = bt s j / 2 ^ (7 - t) % 2 := by
  unfold rbS
  rw [show (8 * j + t) / 8 = j by omega, show (8 * j + t) % 8 = t by omega]

theorem rbS_byte (s : ByteArray) (j : Nat) : num (rbS s) (8 * j) 8 = bt s j := by
  have h0 := bt_nonneg s j
  have h1 := bt_lt s j
  simp only [num]
  rw [rbS_at s j 0 (by decide), rbS_at s j 1 (by decide), rbS_at s j 2 (by decide), rbS_at s j 3 (by decide), rbS_at s j 4 (by decide), rbS_at s j 5 (by decide), rbS_at s j 6 (by decide), rbS_at s j 7 (by decide)]
  generalize bt s j = X at *
  rw [show (2 : Int) ^ (7 - 0) = 128 by decide, show (2 : Int) ^ (7 - 1) = 64 by decide, show (2 : Int) ^ (7 - 2) = 32 by decide, show (2 : Int) ^ (7 - 3) = 16 by decide, show (2 : Int) ^ (7 - 4) = 8 by decide, show (2 : Int) ^ (7 - 5) = 4 by decide, show (2 : Int) ^ (7 - 6) = 2 by decide, show (2 : Int) ^ (7 - 7) = 1 by decide]
  omega

theorem start_text (s : ByteArray) : RSt (rbS s) (8 * s.size) 0 0 0 s :=
  ⟨by omega, by decide, by decide, by decide, by simp [num], fun j hj => by rw [show 0 + 0 + 8 * j = 8 * j by omega, rbS_byte]⟩

theorem bl_step (s : ByteArray) (k t : Nat) (h : t < 8) (hk : k < s.size) : bl (rbS s) (8 * k + (t + 1)) = bl (rbS s) (8 * k + t) ++ [(s[k].toNat : Int) / 2 ^ (7 - t) % 2] := by
  rw [← Nat.add_assoc, bl, rbS_at s k t h, bt_eq s k hk]

/-- What stands at the inner loop's head behind t rounds. -/
def half (t : Nat) : Int := if t < 8 then 2 ^ (7 - t) else 0

/-- The n bits of a number. -/
def rbX (x : Int) (n j : Nat) : Int := x / 2 ^ (n - 1 - j) % 2

theorem rbX_bit (x : Int) (n j : Nat) : Bit (rbX x n j) := by unfold rbX Bit; omega

theorem pow_half (x : Int) (m : Nat) : x / 2 ^ (m + 1) = x / 2 ^ m / 2 := by
  rw [Int.pow_succ, Int.ediv_ediv_of_nonneg (Int.le_of_lt (Int.pow_pos (by decide)))]

theorem rbX_num (x : Int) (n : Nat) (h0 : 0 ≤ x) (h1 : x < 2 ^ n) : ∀ c, c ≤ n → num (rbX x n) 0 c = x / 2 ^ (n - c)
  | 0, _ => by rw [num, Nat.sub_zero, Int.ediv_eq_zero_of_lt h0 h1]
  | c + 1, h => by
    rw [num, rbX_num x n h0 h1 c (by omega), rbX, Nat.zero_add]
    rw [show n - c = (n - (c + 1)) + 1 by omega, show n - 1 - c = n - (c + 1) by omega, pow_half]
    omega

theorem start_num (x : Int) (n : Nat) (hn : n ≤ 32) (h0 : 0 ≤ x) (h1 : x < 2 ^ n) : RSt (rbX x n) n 0 x n ⟨#[]⟩ := by
  have hm := pow2_mono n (32 - n)
  rw [show n + (32 - n) = 32 by omega] at hm
  refine ⟨by show 0 + n + 8 * 0 = n; omega, hn, h0, by omega, ?_, fun j hj => by exact absurd hj (Nat.not_lt_zero j)⟩
  rw [rbX_num x n h0 h1 n (Nat.le_refl _), Nat.sub_self, Int.emod_eq_of_lt h0 h1]
  simp

set_option maxHeartbeats 1600000 in
theorem impl_numBits (x : Int) (n : Nat) (w : World) (hn : n ≤ 32) (h0 : 0 ≤ x) (h1 : x < 2 ^ n) :
    Calls Try.prog 57 #[.int .i64 x, .int .i64 n] w fun e w' => ∃ v, e = .returned v ∧ Own w' w.heap.size 3 .i64 v (bl (rbX x n) n) ∧ Below w.heap.size w w' := by
  have HA := hid (all_any (rbX x n) (rbX_bit x n) w.heap.size n x n ⟨#[]⟩ (w.alloc (.cells #[.int .u32 x, .int .i64 n, .string ⟨#[]⟩] 103)) (by omega) (start_num x n hn h0 h1) (heap_alloc_new w _))
  have hz : x / 2 ^ n = 0 := Int.ediv_eq_zero_of_lt h0 h1
  have hm := pow2_mono n (32 - n)
  rw [show n + (32 - n) = 32 by omega] at hm
  have hx32 : x < 4294967296 := by omega
  clear hm h1
  go_enter Try.func57, Try.ntmps57
  go_wp2_with fail
  refine HA.out.mono ?_
  rintro e w1 ⟨v, rfl, ho, hb⟩
  obtain ⟨ao, cap, rfl⟩ := ho.shape
  go_wp2
  go_ret
  exact ⟨_, rfl, ho.lower (by omega), ((Below.refl _ _).alloc (Nat.le_refl _) _).trans hb⟩

set_option maxHeartbeats 1600000 in
theorem spec_numBits (x : Int) (n : Nat) (w : World) (hn : n ≤ 32) (h0 : 0 ≤ x) (h1 : x < 2 ^ n) :
    Calls Try.prog 72 #[.int .i64 x, .int .i64 n] w fun e w' => ∃ v, e = .returned v ∧ Own w' w.heap.size 3 .i64 v (bl (rbX x n) n) ∧ Below w.heap.size w w' := by
  have hd : decide ((0 : Int) ≤ (n : Int) ∧ (n : Int) ≤ 32) = true := by simp; omega
  have p0 : (0 : Int) < 2 ^ n := Int.pow_pos (by decide)
  have p1 : (2 : Int) ^ n ≤ 4294967296 := by
    have h := pow2_mono n (32 - n)
    rw [show n + (32 - n) = 32 by omega] at h
    exact h
  have hx32 : x < 4294967296 := by omega
  have hd2 : decide ((0 : Int) ≤ x ∧ x ≤ 2 ^ n - 1) = true := by
    rw [decide_eq_true_iff]
    omega
  have HP := hid (fun w => pow2_any n w hn)
  generalize hP : (2 : Int) ^ n = P at *
  clear h1 hP
  go_enter Try.func72, Try.ntmps72
  go_wp2_with fail
  refine (spec_in _ _ _ _).mono ?_
  rw [hd]
  rintro e w1 ⟨rfl, rfl⟩
  go_wp2_with fail
  refine (HP.out _).mono ?_
  rintro e w1 ⟨rfl, rfl⟩
  go_wp2_with fail
  refine (spec_in _ _ _ _).mono ?_
  rw [hd2]
  rintro e w1 ⟨rfl, rfl⟩
  go_wp2
  go_loopw [5, 6] (fun v i wr => ∃ (c : Nat) (y : Int), c ≤ n ∧ i = .int .i64 y ∧ Hid (y = (n : Int) - 1 - c) ∧ Own wr w.heap.size 3 .i64 v (bl (rbX x n) c) ∧ Below w.heap.size w wr) (fun _ i _ => (intOf i + 1).toNat)
  case atStart => exact ⟨0, (n : Int) - 1, by omega, rfl, by show _ = _; omega, Own.empty _ _ _ _ (Nat.le_refl _), (Below.refl _ _).alloc (Nat.le_refl _) _⟩
  case round =>
    obtain ⟨c, y, hc, rfl, hy, hown, hb⟩ := hrel
    by_cases hlt : c < n
    · obtain ⟨q, hq⟩ : ∃ q : Nat, y = (q : Int) := ⟨n - 1 - c, by have := hy.out; omega⟩
      subst hq
      have hq32 : q ≤ 32 := by have := hy.out; omega
      have hst : Hid (bl (rbX x n) (c + 1) = bl (rbX x n) c ++ [x / 2 ^ q % 2]) := by
        show _ = _
        rw [bl, rbX, show n - 1 - c = q by have := hy.out; omega]
      have hlen := bl_length (rbX x n) c
      have q0 : (0 : Int) < 2 ^ q := Int.pow_pos (by decide)
      have q1 : (2 : Int) ^ q ≤ 4294967296 := by
        have h := pow2_mono q (32 - q)
        rw [show q + (32 - q) = 32 by omega] at h
        exact h
      have q2 : 0 ≤ x / 2 ^ q := Int.ediv_nonneg h0 (by omega)
      have q3 : x / 2 ^ q ≤ x := Int.ediv_le_self _ h0
      have HP2 := hid (fun w => pow2_any q w hq32)
      generalize hP : (2 : Int) ^ q = P2 at *
      have q4 : x.tdiv P2 = x / P2 := Int.tdiv_eq_ediv_of_nonneg h0
      clear hP
      go_wp2_with fail
      refine (HP2.out _).mono ?_
      rintro e w1 ⟨rfl, rfl⟩
      go_wp2_with (at_builtin; refine wpList_push _ rfl _ _ 24 rfl _ 3 .i64 0 8 Try.underlying24 Try.info3 _ _ rfl hown (x / P2 % 2) rfl (by omega) (by decide) ?_)
      intro v1 w1 hown1 hb1
      go_wp2
      go_roundw
      case rel => exact ⟨c + 1, (q : Int) - 1, by omega, rfl, by show _ = _; have := hy.out; omega, by rw [hst.out]; exact hown1, hb.trans hb1⟩
      case measure => simp [intOf]
    · obtain rfl : c = n := by omega
      obtain rfl : y = -1 := by have := hy.out; omega
      obtain ⟨ao, cap, rfl⟩ := hown.shape
      go_wp2
      go_ret
      exact ⟨_, rfl, hown, hb⟩
end Go.Proofs.Ytmdmolofiblbmaa
