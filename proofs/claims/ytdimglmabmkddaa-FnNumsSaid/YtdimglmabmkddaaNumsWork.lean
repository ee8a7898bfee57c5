/- The contracts of PutWord, GetWord, PutNum and GetNum of the program, and of the specification's PutNum, for the law FnNums. -/
import Derived.Test.YtdimglmabmkddaaRows
import Derived.Test.YtdimglmabmkddaaAid
import Derived.WalkKit
import Derived.WalkSpells
import Derived.WalkLawsBesides
import Derived.Deep.QuietTactic
import Derived.Deep.RegionWith
import Derived.BigQuiet
import Derived.Laws.BytesArg
import Derived.Outline
import Derived.OpenShut
namespace Go.Proofs.Ytdimglmabmkddaa.Nums
open Go.RowKit
set_option linter.unusedVariables false


def wordBytes (x : Int) : List Int := [x / 16777216, x / 65536 % 256, x / 256 % 256, x % 256]

theorem conv4 (w : World) (a b c d : Int) : Sem.run Try.prog (convert 22 9 (.slice (some ⟨w.heap.size, 0, none⟩) 4 4)) (w.alloc (.cells #[.int .u8 a, .int .u8 b, .int .u8 c, .int .u8 d] 5)) =
    .ok (.string (strOfNums [a, b, c, d])) (w.alloc (.cells #[.int .u8 a, .int .u8 b, .int .u8 c, .int .u8 d] 5)) := by
  refine run_convert_bytes_arg _ 22 5 Try.underlying22 Try.underlying5 _ 0 4 4 [a, b, c, d] rfl ?_ 9 Try.underlying9
  intro i hi
  match i, hi with
  | 0, _ => simp
  | 1, _ => simp
  | 2, _ => simp
  | 3, _ => simp

set_option maxHeartbeats 400000 in
theorem impl_putWord (x : Int) (w : World) (h0 : 0 ≤ x) (h1 : x ≤ 4294967295) :
    Calls Try.prog 25 #[.int .u32 x] w fun e w' => e = .returned (.string (strOfNums (wordBytes x))) ∧ Below w.heap.size w w' := by
  have hc := conv4 w
  go_enter Try.func25, Try.ntmps25
  go_wp2
  go_ret
  exact ⟨rfl, (Below.refl _ _).alloc (Nat.le_refl _) _⟩


theorem ret_int {k : IntKind} {a b : Int} (h : a = b) : Ending.returned (.int k a) = .returned (.int k b) := by rw [h]

def wordOf (a b c d : UInt8) : Int := (a.toNat : Int) * 16777216 + (b.toNat : Int) * 65536 + (c.toNat : Int) * 256 + (d.toNat : Int)

theorem byte_lt (a : UInt8) : (a.toNat : Int) < 256 := by have := a.toNat_lt; omega

theorem w64 {x : Int} (h0 : -9223372036854775808 ≤ x) (h1 : x ≤ 9223372036854775807) : wrap64 x = x := by
  unfold wrap64; omega

theorem join (i : Nat) (x y : Int) (hx₀ : 0 ≤ x) (hx : x % 2 ^ i = 0) (hx₁ : x < 2 ^ 32) (hy₀ : 0 ≤ y) (hy : y < 2 ^ i) (hy₁ : y < 2 ^ 32) : bits .or .u32 x y = x + y :=
  bits_join .u32 32 (by decide) (fun n h0 h1 => by rw [IntKind.wrap_u32]; omega) i x y hx₀ hx hx₁ hy₀ hy hy₁

theorem impl_val (a b c d : UInt8) : bits .or .u32 (bits .or .u32 (bits .or .u32 ((a.toNat : Int) % 4294967296 * 16777216 % 4294967296) ((b.toNat : Int) % 4294967296 * 65536 % 4294967296)) ((c.toNat : Int) % 4294967296 * 256 % 4294967296)) ((d.toNat : Int) % 4294967296) = wordOf a b c d := by
  have ha := byte_lt a
  have hb := byte_lt b
  have hc := byte_lt c
  have hd := byte_lt d
  rw [show (a.toNat : Int) % 4294967296 * 16777216 % 4294967296 = (a.toNat : Int) * 16777216 by omega, show (b.toNat : Int) % 4294967296 * 65536 % 4294967296 = (b.toNat : Int) * 65536 by omega,
    show (c.toNat : Int) % 4294967296 * 256 % 4294967296 = (c.toNat : Int) * 256 by omega, show (d.toNat : Int) % 4294967296 = (d.toNat : Int) by omega]
  rw [join 24 ((a.toNat : Int) * 16777216) ((b.toNat : Int) * 65536) (by omega) (by omega) (by omega) (by omega) (by omega) (by omega)]
  rw [join 16 ((a.toNat : Int) * 16777216 + (b.toNat : Int) * 65536) ((c.toNat : Int) * 256) (by omega) (by omega) (by omega) (by omega) (by omega) (by omega)]
  rw [join 8 _ _ (by omega) (by omega) (by omega) (by omega) (by omega) (by omega)]
  rfl

set_option maxHeartbeats 400000 in
theorem impl_getWord_yes (s : ByteArray) (k : Nat) (w : World) (hs : s.size ≤ 1048576) (h : k + 4 ≤ s.size) :
    Calls Try.prog 24 #[.string s, .int .i64 k] w fun e w' => e = .returned (.int .u32 (wordOf s[k] s[k + 1] s[k + 2] s[k + 3])) ∧ ∃ n, w' = w.drewN n := by
  have k0 : (k : Int) < (s.size : Int) := by omega
  have k1 : (k : Int) + 1 < (s.size : Int) := by omega
  have k2 : (k : Int) + 2 < (s.size : Int) := by omega
  have k3 : (k : Int) + 3 < (s.size : Int) := by omega
  have n1 : (0 : Int) ≤ (k : Int) + 1 := by omega
  have n2 : (0 : Int) ≤ (k : Int) + 2 := by omega
  have n3 : (0 : Int) ≤ (k : Int) + 3 := by omega
  have j1 : IntKind.i64.wrap ((k : Int) + 1) = (k : Int) + 1 := by rw [IntKind.wrap_i64]; omega
  have j2 : IntKind.i64.wrap ((k : Int) + 2) = (k : Int) + 2 := by rw [IntKind.wrap_i64]; omega
  have j3 : IntKind.i64.wrap ((k : Int) + 3) = (k : Int) + 3 := by rw [IntKind.wrap_i64]; omega
  go_enter Try.func24, Try.ntmps24
  go_wp2
  go_quiet (fail)
  go_wp2
  go_ret
  exact ⟨ret_int (impl_val _ _ _ _), _, rfl⟩

theorem below_drewN (w : World) (n : Nat) : Below w.heap.size w (w.drewN n) := ⟨rfl, rfl, rfl, Nat.le_refl _, fun _ _ => rfl⟩


theorem spec_in (x a b : Int) (w : World) :
    Calls Try.prog 45 #[.int .i64 x, .int .i64 a, .int .i64 b] w fun e w' => e = .returned (.bool (decide (a ≤ x ∧ x ≤ b))) ∧ w = w' := by
  by_cases h1 : a ≤ x <;> by_cases h2 : x ≤ b
  all_goals
    go_enter Try.func45, Try.ntmps45
    go_wp2
    go_ret
    exact ⟨by simp [h1, h2], rfl⟩

/-- The bytes of a number: seven bits each, from the lowest on. -/
def nb : Nat → Int → List Int
  | 0, x => [x]
  | f + 1, x => if x < 128 then [x] else (x % 128 + 128) :: nb f (x / 128)

theorem nb_small (f : Nat) (x : Int) (h : x < 128) : nb f x = [x] := by
  cases f <;> simp [nb, h]

theorem nb_big (f : Nat) (x : Int) (h : ¬ x < 128) (hf : x.toNat ≤ f) : ∃ g, f = g + 1 ∧ (x / 128).toNat ≤ g ∧ nb f x = (x % 128 + 128) :: nb g (x / 128) := by
  obtain ⟨g, rfl⟩ : ∃ g, f = g + 1 := ⟨f - 1, by omega⟩
  exact ⟨g, rfl, by omega, by simp [nb, h]⟩

theorem info5u : (Try.prog.info? 5).map (fun i => (i.zero, i.size, i.bytes)) = some (some (.int .u8 0), 1, 1) := by kernel_rfl

set_option maxHeartbeats 400000 in
theorem impl_putNum (x : Int) (w : World) (h0 : 0 ≤ x) (h1 : x ≤ 1000000000) :
    Calls Try.prog 20 #[.int .i64 x] w fun e w' => e = .returned (.string (strOfNums (nb x.toNat x))) ∧ Below w.heap.size w w' := by
  go_enter Try.func20, Try.ntmps20
  go_wp2
  go_loopw [0, 3] (fun i v wr => ∃ (y : Int) (f : Nat) (xs : List Int), i = .int .i64 y ∧ 0 ≤ y ∧ y ≤ x ∧ y.toNat ≤ f ∧ Own wr w.heap.size 5 .u8 v xs ∧ xs.length + y.toNat ≤ x.toNat ∧ Hid (xs ++ nb f y = nb x.toNat x) ∧ Below w.heap.size w wr) (fun i _ _ => (intOf i).toNat)
  case atStart =>
    exact ⟨x, x.toNat, [], rfl, h0, Int.le_refl _, Nat.le_refl _, Own.empty _ _ _ _ (Nat.le_refl _), by simp, rfl, (Below.refl _ _).alloc (Nat.le_refl _) _⟩
  case round =>
    obtain ⟨y, f, xs, rfl, hy0, hy1, hf, hown, hlen, hinv, hb⟩ := hrel
    by_cases hy : y < 128
    · go_wp2_with (at_builtin; refine wpList_push _ rfl _ _ 22 rfl _ 5 .u8 0 1 Try.underlying22 info5u _ xs rfl hown y rfl (by omega) (by decide) ?_)
      intro v' w1 hown1 hb1
      have hc := Own.conv Try.underlying22 Try.underlying5 Try.underlying9 hown1
      go_wp2
      go_ret
      exact ⟨ret_str (by rw [← hinv.out, nb_small f y hy]), hb.trans hb1⟩
    · go_wp2_with (at_builtin; refine wpList_push _ rfl _ _ 22 rfl _ 5 .u8 0 1 Try.underlying22 info5u _ xs rfl hown (y % 128 + 128) rfl (by omega) (by decide) ?_)
      intro v' w1 hown1 hb1
      go_wp2
      go_roundw
      case rel =>
        obtain ⟨g, rfl, hg, hn⟩ := nb_big f y (by omega) hf
        exact ⟨y / 128, g, xs ++ [y % 128 + 128], rfl, by omega, by omega, hg, hown1, by simp; omega, show _ = _ by rw [← hinv.out, hn]; simp, hb.trans hb1⟩
      case measure => simp [intOf]; omega

set_option maxHeartbeats 400000 in
theorem spec_putNum (x : Int) (w : World) (h0 : 0 ≤ x) (h1 : x ≤ 1000000000) :
    Calls Try.prog 21 #[.int .i64 x] w fun e w' => e = .returned (.string (strOfNums (nb x.toNat x))) ∧ Below w.heap.size w w' := by
  have hd : decide (0 ≤ x ∧ x ≤ 1000000000) = true := by simp; omega
  go_enter Try.func21, Try.ntmps21
  go_wp2_with (go_at_call 45; refine (spec_in _ _ _ _).mono ?_; rw [hd]; rintro e w' ⟨rfl, rfl⟩)
  go_loopw [0, 3] (fun i v wr => ∃ (y : Int) (f : Nat) (xs : List Int), i = .int .i64 y ∧ 0 ≤ y ∧ y ≤ x ∧ y.toNat ≤ f ∧ Own wr w.heap.size 5 .u8 v xs ∧ xs.length + y.toNat ≤ x.toNat ∧ Hid (xs ++ nb f y = nb x.toNat x) ∧ Below w.heap.size w wr) (fun i _ _ => (intOf i).toNat)
  case atStart =>
    exact ⟨x, x.toNat, [], rfl, h0, Int.le_refl _, Nat.le_refl _, Own.empty _ _ _ _ (Nat.le_refl _), by simp, rfl, (Below.refl _ _).alloc (Nat.le_refl _) _⟩
  case round =>
    obtain ⟨y, f, xs, rfl, hy0, hy1, hf, hown, hlen, hinv, hb⟩ := hrel
    by_cases hy : y < 128
    · go_wp2_with (at_builtin; refine wpList_push _ rfl _ _ 22 rfl _ 5 .u8 0 1 Try.underlying22 info5u _ xs rfl hown y rfl (by omega) (by decide) ?_)
      intro v' w1 hown1 hb1
      have hc := Own.conv Try.underlying22 Try.underlying5 Try.underlying9 hown1
      go_wp2
      go_ret
      exact ⟨ret_str (by rw [← hinv.out, nb_small f y hy]), hb.trans hb1⟩
    · go_wp2_with (at_builtin; refine wpList_push _ rfl _ _ 22 rfl _ 5 .u8 0 1 Try.underlying22 info5u _ xs rfl hown (128 + y % 128) rfl (by omega) (by decide) ?_)
      intro v' w1 hown1 hb1
      go_wp2
      go_roundw
      case rel =>
        obtain ⟨g, rfl, hg, hn⟩ := nb_big f y (by omega) hf
        exact ⟨y / 128, g, xs ++ [y % 128 + 128], rfl, by omega, by omega, hg, by rw [Int.add_comm]; exact hown1, by simp; omega, show _ = _ by rw [← hinv.out, hn]; simp, hb.trans hb1⟩
      case measure => simp [intOf]; omega

set_option maxHeartbeats 400000 in
theorem impl_putNum_no (x : Int) (w : World) (h : x < 0 ∨ 1000000000 < x) :
    Calls Try.prog 20 #[.int .i64 x] w fun e w' => e = .returned (.string ⟨#[]⟩) ∧ w' = w := by
  by_cases h0 : x < 0
  · clear h
    go_enter Try.func20, Try.ntmps20
    go_wp2
    go_ret
    exact ⟨rfl, rfl⟩
  · have h2 : 1000000000 < x := by omega
    clear h
    go_enter Try.func20, Try.ntmps20
    go_wp2
    go_ret
    exact ⟨rfl, rfl⟩

set_option maxHeartbeats 400000 in
theorem spec_putNum_no (x : Int) (w : World) (h : x < 0 ∨ 1000000000 < x) :
    Calls Try.prog 21 #[.int .i64 x] w fun e w' => e = .returned (.string ⟨#[]⟩) ∧ w' = w := by
  have hd : decide (0 ≤ x ∧ x ≤ 1000000000) = false := by simp; omega
  go_enter Try.func21, Try.ntmps21
  go_wp2_with (go_at_call 45; refine (spec_in _ _ _ _).mono ?_; rw [hd]; rintro e w' ⟨rfl, rfl⟩)
  go_ret
  exact ⟨rfl, rfl⟩


/-- The byte at a place; 0 where there is none. -/
def bt (s : ByteArray) (j : Nat) : Int := if h : j < s.size then (s[j].toNat : Int) else 0
theorem bt_eq (s : ByteArray) (j : Nat) (h : j < s.size) : bt s j = (s[j].toNat : Int) := by simp [bt, h]
theorem bt_nonneg (s : ByteArray) (j : Nat) : 0 ≤ bt s j := by unfold bt; split <;> omega
theorem bt_lt (s : ByteArray) (j : Nat) : bt s j < 256 := by
  unfold bt
  split
  · exact byte_lt _
  · omega

/-- What c bytes from place j on tell. -/
def val (b : Nat → Int) : Nat → Nat → Int
  | _, 0 => 0
  | j, c + 1 => b j % 128 + 128 * val b (j + 1) c

theorem val_nonneg (b : Nat → Int) : ∀ c j, 0 ≤ val b j c
  | 0, j => by simp [val]
  | c + 1, j => by have := val_nonneg b c (j + 1); simp only [val]; omega

theorem val_lt (b : Nat → Int) : ∀ c j, val b j c < 128 ^ c
  | 0, j => by simp [val]
  | c + 1, j => by
    have := val_lt b c (j + 1)
    have e : (128 : Int) ^ (c + 1) = 128 * 128 ^ c := by rw [Int.pow_succ]; omega
    simp only [val]
    rw [e]
    omega

theorem pow_mono (t : Nat) : ∀ d, (128 : Int) ^ t ≤ 128 ^ (t + d)
  | 0 => Int.le_refl _
  | d + 1 => by
    have h := pow_mono t d
    have e : (128 : Int) ^ (t + (d + 1)) = 128 * 128 ^ (t + d) := by rw [← Nat.add_assoc, Int.pow_succ]; omega
    have p : (0 : Int) < 128 ^ t := Int.pow_pos (by decide)
    omega
theorem val_le5 (b : Nat → Int) (j t : Nat) (h : t ≤ 5) : val b j t ≤ 128 ^ 5 := by
  have h1 := val_lt b t j
  have h2 := pow_mono t (5 - t)
  rw [show t + (5 - t) = 5 by omega] at h2
  omega

theorem val_snoc (b : Nat → Int) : ∀ c j, val b j (c + 1) = val b j c + b (j + c) % 128 * 128 ^ c
  | 0, j => by simp [val]
  | c + 1, j => by
    have h := val_snoc b c (j + 1)
    have e : (128 : Int) ^ (c + 1) = 128 * 128 ^ c := by rw [Int.pow_succ]; omega
    have e2 : j + 1 + c = j + (c + 1) := by omega
    rw [val, h, e2, e]
    simp only [val]
    generalize (128 : Int) ^ c = p
    generalize b (j + (c + 1)) % 128 = q
    have e3 : q * (128 * p) = 128 * (q * p) := by rw [← Int.mul_assoc, Int.mul_comm q 128, Int.mul_assoc]
    rw [e3]
    omega

/-- The bytes themselves. -/
def row (b : Nat → Int) : Nat → Nat → List Int
  | _, 0 => []
  | j, c + 1 => b j :: row b (j + 1) c

theorem row_length (b : Nat → Int) : ∀ c j, (row b j c).length = c
  | 0, j => rfl
  | c + 1, j => by simp [row, row_length b c (j + 1)]

theorem row_get (b : Nat → Int) : ∀ c j k, k < c → (row b j c)[k]? = some (b (j + k))
  | c + 1, j, 0, _ => by simp [row]
  | c + 1, j, k + 1, h => by
    have := row_get b c (j + 1) k (by omega)
    simp only [row, List.getElem?_cons_succ, this]
    congr 2
    omega

/-- A number's own bytes are those that tell it, as soon as they are as many. -/
theorem nb_row (b : Nat → Int) (hb : ∀ j, 0 ≤ b j ∧ b j < 256) : ∀ (n j f : Nat), (∀ k, k < n → 128 ≤ b (j + k)) → b (j + n) < 128 → (val b j (n + 1)).toNat ≤ f →
    (nb f (val b j (n + 1))).length = n + 1 → nb f (val b j (n + 1)) = row b j (n + 1)
  | 0, j, f, _, h2, _, _ => by
    have := hb j
    have e : val b j 1 = b j := by simp only [val]; simp only [Nat.add_zero] at h2; omega
    rw [e, nb_small _ _ (by simpa using h2)]
    simp [row]
  | n + 1, j, f, h1, h2, hf, hl => by
    by_cases hs : val b j (n + 1 + 1) < 128
    · rw [nb_small _ _ hs] at hl
      simp at hl
    · obtain ⟨g, rfl, hg, hn⟩ := nb_big f _ hs hf
      have h0 := hb j
      have h10 := h1 0 (by omega)
      simp only [Nat.add_zero] at h10
      have ed : val b j (n + 1 + 1) / 128 = val b (j + 1) (n + 1) := by
        rw [val]; omega
      have em : val b j (n + 1 + 1) % 128 + 128 = b j := by
        rw [val]; omega
      rw [hn, em, ed] at hl ⊢
      rw [ed] at hg
      have := nb_row b hb n (j + 1) g (fun k hk => by have := h1 (k + 1) (by omega); rwa [show j + (k + 1) = j + 1 + k by omega] at this) (by rwa [show j + (n + 1) = j + 1 + n by omega] at h2) hg (by simpa using hl)
      rw [this]
      rfl

/-- The first byte below 128, if one comes ahead of place N. -/
theorem first_low (b : Nat → Int) (m : Nat) : ∀ N : Nat, (∀ j, j < N → j < m → 128 ≤ b j) ∨ ∃ n, n < N ∧ n < m ∧ (∀ j, j < n → 128 ≤ b j) ∧ b n < 128
  | 0 => .inl (fun j hj => by omega)
  | N + 1 => by
    rcases first_low b m N with h | ⟨n, h1, h2⟩
    · by_cases hm : N < m
      · by_cases hb : 128 ≤ b N
        · left
          intro j hj hjm
          by_cases e : j = N
          · subst e; exact hb
          · exact h j (by omega) hjm
        · right
          exact ⟨N, by omega, hm, fun j hj => h j hj (by omega), by omega⟩
      · left
        intro j hj hjm
        exact h j (by omega) hjm
    · exact .inr ⟨n, by omega, h2⟩

theorem nb_length_pos (f : Nat) (x : Int) : 1 ≤ (nb f x).length := by
  cases f with
  | zero => simp [nb]
  | succ f => simp only [nb]; split <;> simp

/-- A cut of a text, as numbers. -/
theorem cut_nums (s : ByteArray) (i c : Nat) (h : i + c ≤ s.size) : s.extract i (i + c) = strOfNums (row (bt s) i c) := by
  apply ByteArray.ext
  apply Array.ext'
  rw [strOfNums_data]
  rw [ByteArray.data_extract]
  apply List.ext_getElem?
  intro k
  rw [List.getElem?_map]
  by_cases hk : k < c
  · rw [row_get _ _ _ _ hk, Option.map_some, bt_eq s (i + k) (by omega)]
    have hi : i + k < s.data.size := by have : s.data.size = s.size := rfl; omega
    simp [hk]
    rw [Array.getElem?_eq_getElem hi]
    rfl
  · have e1 : (row (bt s) i c)[k]? = none := List.getElem?_eq_none (by rw [row_length]; omega)
    rw [e1, List.getElem?_eq_none (by simp; omega)]
    rfl

theorem val_int {k : IntKind} {a b : Int} (h : a = b) : Value.int k a = .int k b := by rw [h]
end Go.Proofs.Ytdimglmabmkddaa.Nums
