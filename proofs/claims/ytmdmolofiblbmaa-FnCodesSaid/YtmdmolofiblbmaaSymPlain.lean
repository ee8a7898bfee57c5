/- Plain facts on finding a symbol by its code: the keys are in order, the map tells their symbols, and the first code that bits begin with. No function of the program is walked here. -/
import Derived.Test.YtmdmolofiblbmaaCodePlain
import Derived.Maps.OwnSet
import Derived.Maps.Views
namespace Go.Proofs.Ytmdmolofiblbmaa
open Go.RowKit Go.Maps
set_option linter.unusedVariables false

theorem num_congr (f g : Nat → Int) (s : Nat) : ∀ c, (∀ j, j < c → f (s + j) = g (s + j)) → num f s c = num g s c
  | 0, _ => rfl
  | c + 1, h => by rw [num, num, num_congr f g s c (fun j hj => h j (by omega)), h c (by omega)]
theorem bits_of_num (b : Nat → Int) (hb : ∀ j, Bit (b j)) (n j : Nat) (hj : j < n) : num b 0 n / 2 ^ (n - 1 - j) % 2 = b j := by
  have h := num_split b 0 (j + 1) (n - 1 - j)
  rw [show j + 1 + (n - 1 - j) = n by omega] at h
  have hbd := num_bd b hb (0 + (j + 1)) (n - 1 - j)
  have hp : (0 : Int) < 2 ^ (n - 1 - j) := Int.pow_pos (by decide)
  rw [h, Int.add_comm, Int.add_mul_ediv_right _ _ (by omega), Int.ediv_eq_zero_of_lt hbd.1 hbd.2, num, Nat.zero_add]
  have := hb j
  unfold Bit at this
  omega

/-- The order of keys. -/
def KLt (x y : Nat × Int) : Prop := x.1 < y.1 ∨ (x.1 = y.1 ∧ x.2 < y.2)
theorem rowKeys_lt (cs : List Int) (i : Nat) : ∀ k, (rowKeys cs i k).Pairwise KLt ∧ ∀ x ∈ rowKeys cs i k, x.1 = i + 1 ∧ x.2 < sc cs i + k
  | 0 => ⟨.nil, by simp [rowKeys]⟩
  | k + 1 => by
    obtain ⟨h1, h2⟩ := rowKeys_lt cs i k
    rw [rowKeys]
    refine ⟨List.pairwise_append.2 ⟨h1, List.pairwise_singleton _ _, fun x hx y hy => ?_⟩, fun x hx => ?_⟩
    · have h3 := h2 x hx
      have e : y = (i + 1, sc cs i + k) := by simpa using hy
      subst e
      exact .inr ⟨h3.1, h3.2⟩
    · rw [List.mem_append] at hx
      rcases hx with hx | hx
      · have h3 := h2 x hx
        exact ⟨h3.1, by omega⟩
      · have e : x = (i + 1, sc cs i + k) := by simpa using hx
        subst e
        exact ⟨rfl, by show sc cs i + k < sc cs i + ((k + 1 : Nat) : Int); omega⟩
theorem keysTo_lt (cs : List Int) : ∀ i, (keysTo cs i).Pairwise KLt ∧ ∀ x ∈ keysTo cs i, x.1 ≤ i
  | 0 => ⟨.nil, by simp [keysTo]⟩
  | i + 1 => by
    obtain ⟨h1, h2⟩ := keysTo_lt cs i
    have h3 := rowKeys_lt cs i (cs.getD i 0).toNat
    rw [keysTo]
    refine ⟨List.pairwise_append.2 ⟨h1, h3.1, fun x hx y hy => ?_⟩, fun x hx => ?_⟩
    · have a := h2 x hx
      have b := (h3.2 y hy).1
      exact .inl (by omega)
    · rw [List.mem_append] at hx
      rcases hx with hx | hx
      · have := h2 x hx
        omega
      · have := (h3.2 x hx).1
        omega
/-- The p-th key. -/
def kp (K : List (Nat × Int)) (p : Nat) : Nat × Int := K.getD p (0, 0)
theorem kp_mem {K : List (Nat × Int)} {p : Nat} (h : p < K.length) : kp K p ∈ K := by
  have : kp K p = K[p] := by simp [kp, List.getD, h]
  rw [this]
  exact List.getElem_mem _
theorem kp_some {K : List (Nat × Int)} {p : Nat} (h : p < K.length) : K[p]? = some (kp K p) := by simp [kp, List.getD, h]
theorem kp_lt {K : List (Nat × Int)} (hK : K.Pairwise KLt) {p q : Nat} (h : p < q) (hq : q < K.length) : KLt (kp K p) (kp K q) := by
  have h1 : kp K p = K[p] := by simp [kp, List.getD, show p < K.length by omega]
  have h2 : kp K q = K[q] := by simp [kp, List.getD, hq]
  rw [h1, h2]
  exact List.pairwise_iff_getElem.1 hK p q (by omega) hq h
theorem kp_inj {K : List (Nat × Int)} (hK : K.Pairwise KLt) {p q : Nat} (hp : p < K.length) (hq : q < K.length) (h : kp K p = kp K q) : p = q := by
  refine Classical.byContradiction fun hne => ?_
  rcases Nat.lt_or_gt_of_ne hne with hl | hl
  · have := kp_lt hK hl hq
    rw [h] at this
    unfold KLt at this
    omega
  · have := kp_lt hK hl hp
    rw [h] at this
    unfold KLt at this
    omega

theorem wf_small {x : Int} (h0 : -9223372036854775808 ≤ x) (h1 : x ≤ 9223372036854775807) : (Lit.int .i64 x).wf = true := by
  simp [Lit.wf, IntKind.min, IntKind.max, IntKind.signed, IntKind.bits]
  omega
theorem keyOk_bd {x : Nat × Int} (h : KeyOk x) : x.2 < 65536 := by
  have := pow2_mono x.1 (16 - x.1)
  rw [show x.1 + (16 - x.1) = 16 by have := h.1; omega] at this
  have h3 := h.2.2
  have e : (2 : Int) ^ 16 = 65536 := by decide
  omega
theorem kl_ne (w : World) {a b c d : Int} (ha : (Lit.int .i64 a).wf = true) (hb : (Lit.int .i64 b).wf = true) (hc : (Lit.int .i64 c).wf = true) (hd : (Lit.int .i64 d).wf = true) (h : ¬ (a = c ∧ b = d)) : kl72 a b ≠ kl72 c d := fun e => h (by
  have h1 := key72 w a b ha hb
  have h2 := key72 w c d hc hd
  rw [e] at h1
  have := law72.inj h1 h2
  simpa using this)
theorem kl_key (w : World) {a b : Int} (ha : (Lit.int .i64 a).wf = true) (hb : (Lit.int .i64 b).wf = true) : WideAt.IsKeyLit (kl72 a b) := law72.key (key72 w a b ha hb)
theorem mapGo_isMap (ss : List Int) (K : List (Nat × Int)) : ∀ t, IsMap (mapGo ss K t)
  | 0 => isMap_empty
  | t + 1 => (mapGo_isMap ss K t).put _ _
theorem keyOk_wf {x : Nat × Int} (h : KeyOk x) : (Lit.int .i64 (x.1 : Int)).wf = true ∧ (Lit.int .i64 x.2).wf = true := by
  have := keyOk_bd h
  have := h.1
  have := h.2.1
  exact ⟨wf_small (by omega) (by omega), wf_small (by omega) (by omega)⟩
theorem mapGo_none (w : World) (ss : List Int) (K : List (Nat × Int)) (hK : ∀ x ∈ K, KeyOk x) (L N : Int) (hL : (Lit.int .i64 L).wf = true) (hN : (Lit.int .i64 N).wf = true) :
    ∀ t, t ≤ K.length → (∀ p, p < t → ¬ (((kp K p).1 : Int) = L ∧ (kp K p).2 = N)) → Maps.has (mapGo ss K t) (kl72 L N) = false
  | 0, _, _ => rfl
  | t + 1, ht, h => by
    have hk := keyOk_wf (hK _ (kp_mem (show t < K.length by omega)))
    rw [mapGo, has_put_other]
    · exact mapGo_none w ss K hK L N hL hN t (by omega) (fun p hp => h p (by omega))
    · exact kl_ne w hL hN hk.1 hk.2 (fun e => h t (by omega) ⟨e.1.symm, e.2.symm⟩)
theorem mapGo_some (w : World) (ss : List Int) (K : List (Nat × Int)) (hK : ∀ x ∈ K, KeyOk x) (hP : K.Pairwise KLt) (p : Nat) :
    ∀ t, t ≤ K.length → p < t → Maps.has (mapGo ss K t) (kl72 (kp K p).1 (kp K p).2) = true ∧ ∀ z, (mapGo ss K t).atKey (kl72 (kp K p).1 (kp K p).2) z = .lit (.int .i64 (ss.getD p 0))
  | t + 1, ht, hp => by
    have hk := keyOk_wf (hK _ (kp_mem (show t < K.length by omega)))
    have hkp := keyOk_wf (hK _ (kp_mem (show p < K.length by omega)))
    by_cases e : p = t
    · subst e
      rw [mapGo]
      exact ⟨has_put_same (mapGo_isMap ss K p) (kl_key w hk.1 hk.2) _, fun z => atKey_put_same (mapGo_isMap ss K p) (kl_key w hk.1 hk.2) _ z⟩
    · have hne : kl72 (kp K p).1 (kp K p).2 ≠ kl72 (K.getD t (0, 0)).1 (K.getD t (0, 0)).2 := kl_ne w hkp.1 hkp.2 hk.1 hk.2 (fun h => e (kp_inj hP (by omega) (by omega) (Prod.ext (by have := h.1; show (kp K p).1 = (K.getD t (0, 0)).1; omega) h.2)))
      have ih := mapGo_some w ss K hK hP p t (by omega) (by omega)
      rw [mapGo]
      exact ⟨by rw [has_put_other hne]; exact ih.1, fun z => by rw [atKey_put_other hne]; exact ih.2 z⟩

/-- Bits begin at i with the code of the key x. -/
def Mt (xs : List Int) (i : Nat) (x : Nat × Int) : Prop := i + x.1 ≤ xs.length ∧ ∀ t, t < x.1 → xs.getD (i + t) 0 = rbX x.2 x.1 t
/-- The number that L bits from i on tell. -/
def nL (xs : List Int) (i L : Nat) : Int := num (fun t => xs.getD (i + t) 0) 0 L
theorem nL_succ (xs : List Int) (i L : Nat) : nL xs i (L + 1) = 2 * nL xs i L + xs.getD (i + L) 0 := by rw [nL, num, Nat.zero_add]; rfl
def BitsTo (xs : List Int) (i L : Nat) : Prop := ∀ t, t < L → Bit (xs.getD (i + t) 0)
theorem nL_bd (xs : List Int) (i L : Nat) (h : BitsTo xs i L) : 0 ≤ nL xs i L ∧ nL xs i L < 2 ^ L := by
  have e : nL xs i L = num (fun t => if t < L then xs.getD (i + t) 0 else 0) 0 L := num_congr _ _ 0 L (fun j hj => by simp only [Nat.zero_add, if_pos hj])
  rw [e]
  refine num_bd _ (fun j => ?_) 0 L
  show Bit (if j < L then xs.getD (i + j) 0 else 0)
  split
  · rename_i hj; exact h j hj
  · exact .inl rfl
theorem mt_iff (xs : List Int) (i : Nat) (x : Nat × Int) (hx : KeyOk x) (hb : BitsTo xs i x.1) (hl : i + x.1 ≤ xs.length) : Mt xs i x ↔ nL xs i x.1 = x.2 := by
  constructor
  · rintro ⟨_, h⟩
    rw [nL, num_congr _ (rbX x.2 x.1) 0 x.1 (fun j hj => by simp only [Nat.zero_add]; exact h j hj), rbX_num x.2 x.1 hx.2.1 hx.2.2 x.1 (Nat.le_refl _), Nat.sub_self]
    simp
  · intro h
    refine ⟨hl, fun t ht => ?_⟩
    have hB : ∀ j, Bit ((fun t => if t < x.1 then xs.getD (i + t) 0 else 0) j) := fun j => by
      show Bit (if j < x.1 then xs.getD (i + j) 0 else 0)
      split
      · rename_i hj; exact hb j hj
      · exact .inl rfl
    have e : nL xs i x.1 = num (fun t => if t < x.1 then xs.getD (i + t) 0 else 0) 0 x.1 := num_congr _ _ 0 x.1 (fun j hj => by simp only [Nat.zero_add, if_pos hj])
    have := bits_of_num _ hB x.1 t ht
    rw [← e, h] at this
    simp only [if_pos ht] at this
    rw [← this, rbX]
theorem mt_bits {xs : List Int} {i : Nat} {x : Nat × Int} (h : Mt xs i x) : BitsTo xs i x.1 := fun t ht => by rw [h.2 t ht]; exact rbX_bit _ _ _

/-- What is found: the first key whose code the bits begin with. -/
def SymIs (K : List (Nat × Int)) (ss xs : List Int) (i : Nat) (r0 r1 : Int) : Prop :=
  (∃ p, p < K.length ∧ Mt xs i (kp K p) ∧ (∀ q, q < p → ¬ Mt xs i (kp K q)) ∧ r0 = ss.getD p 0 ∧ r1 = i + (kp K p).1) ∨ ((∀ q, q < K.length → ¬ Mt xs i (kp K q)) ∧ r0 = -1 ∧ r1 = -1)
theorem SymIs.one {K : List (Nat × Int)} {ss xs : List Int} {i : Nat} {r0 r1 s0 s1 : Int} (h : SymIs K ss xs i r0 r1) (g : SymIs K ss xs i s0 s1) : r0 = s0 ∧ r1 = s1 := by
  rcases h with ⟨p, hp, hm, hq, rfl, rfl⟩ | ⟨hn, rfl, rfl⟩
  · rcases g with ⟨p', hp', hm', hq', rfl, rfl⟩ | ⟨hn', rfl, rfl⟩
    · have : p = p' := by
        rcases Nat.lt_trichotomy p p' with h | h | h
        · exact absurd hm (hq' p h)
        · exact h
        · exact absurd hm' (hq p' h)
      subst this
      exact ⟨rfl, rfl⟩
    · exact absurd hm (hn' p hp)
  · rcases g with ⟨p', hp', hm', hq', rfl, rfl⟩ | ⟨hn', rfl, rfl⟩
    · exact absurd hm' (hn p' hp')
    · exact ⟨rfl, rfl⟩

/-- No key of at most L bits is found. -/
def NoneTo (K : List (Nat × Int)) (xs : List Int) (i L : Nat) : Prop := ∀ q, q < K.length → (kp K q).1 ≤ L → ¬ Mt xs i (kp K q)
theorem found {K : List (Nat × Int)} {ss xs : List Int} {i L p : Nat} (hK : ∀ x ∈ K, KeyOk x) (hP : K.Pairwise KLt) (hn : NoneTo K xs i L) (hb : BitsTo xs i (L + 1)) (hl : i + (L + 1) ≤ xs.length) (hp : p < K.length)
    (h : kp K p = (L + 1, nL xs i (L + 1))) : SymIs K ss xs i (ss.getD p 0) ((i : Int) + (L + 1 : Nat)) := by
  have hm : Mt xs i (kp K p) := (mt_iff xs i (kp K p) (hK _ (kp_mem hp)) (by rw [h]; exact hb) (by rw [h]; exact hl)).2 (by rw [h])
  refine .inl ⟨p, hp, hm, fun q hq hmq => ?_, rfl, by rw [h]⟩
  have hlt := kp_lt hP hq hp
  rw [h] at hlt
  rcases hlt with h1 | ⟨h1, h2⟩
  · exact hn q (by omega) (by simp only at h1; omega) hmq
  · have := (mt_iff xs i (kp K q) (hK _ (kp_mem (show q < K.length by omega))) (mt_bits hmq) hmq.1).1 hmq
    rw [h1] at this
    simp only at this h2
    omega
theorem notFound {K : List (Nat × Int)} {xs : List Int} {i L : Nat} (hK : ∀ x ∈ K, KeyOk x) (hn : NoneTo K xs i L) (h : ∀ p, p < K.length → ¬ (((kp K p).1 : Int) = ((L + 1 : Nat) : Int) ∧ (kp K p).2 = nL xs i (L + 1))) : NoneTo K xs i (L + 1) := by
  intro q hq hle hm
  by_cases e : (kp K q).1 ≤ L
  · exact hn q hq e hm
  · have e2 : (kp K q).1 = L + 1 := by omega
    have := (mt_iff xs i (kp K q) (hK _ (kp_mem hq)) (mt_bits hm) hm.1).1 hm
    rw [e2] at this
    exact h q hq ⟨by omega, this.symm⟩
theorem ended {K : List (Nat × Int)} {ss xs : List Int} {i L : Nat} (hK : ∀ x ∈ K, KeyOk x) (hn : NoneTo K xs i L) (h : ¬ (i + L < xs.length ∧ L < 16 ∧ Bit (xs.getD (i + L) 0))) : SymIs K ss xs i (-1) (-1) := by
  refine .inr ⟨fun q hq hm => ?_, rfl, rfl⟩
  by_cases e : (kp K q).1 ≤ L
  · exact hn q hq e hm
  · have h1 := hm.1
    have h2 := (hK _ (kp_mem hq)).1
    exact h ⟨by omega, by omega, mt_bits hm L (by omega)⟩
end Go.Proofs.Ytmdmolofiblbmaa
