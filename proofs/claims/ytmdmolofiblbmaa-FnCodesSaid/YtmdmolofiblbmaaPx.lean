/- Plain: no code begins another one; what was put is got back. -/
import Derived.Test.YtmdmolofiblbmaaGetS
import Derived.Test.YtmdmolofiblbmaaSymB
import Derived.Test.YtmdmolofiblbmaaPutImpl
namespace Go.Proofs.Ytmdmolofiblbmaa
open Go.RowKit Go.Maps
set_option linter.unusedVariables false

/-- The code of y ends ahead of what x's begins with. -/
def PFr (y x : Nat × Int) : Prop := y.1 ≤ x.1 ∧ (y.2 + 1) * 2 ^ (x.1 - y.1) ≤ x.2
theorem rowKeys_pf (cs : List Int) (i : Nat) : ∀ k, (rowKeys cs i k).Pairwise PFr ∧ ∀ x ∈ rowKeys cs i k, x.1 = i + 1 ∧ sc cs i ≤ x.2 ∧ x.2 < sc cs i + k
  | 0 => ⟨.nil, by simp [rowKeys]⟩
  | k + 1 => by
    obtain ⟨h1, h2⟩ := rowKeys_pf cs i k
    rw [rowKeys]
    refine ⟨List.pairwise_append.2 ⟨h1, List.pairwise_singleton _ _, fun x hx y hy => ?_⟩, fun x hx => ?_⟩
    · have h3 := h2 x hx
      have e : y = (i + 1, sc cs i + k) := by simpa using hy
      subst e
      refine ⟨by rw [h3.1]; exact Nat.le_refl _, ?_⟩
      show (x.2 + 1) * 2 ^ (i + 1 - x.1) ≤ sc cs i + k
      rw [h3.1, Nat.sub_self, Int.pow_zero, Int.mul_one]
      omega
    · rw [List.mem_append] at hx
      rcases hx with hx | hx
      · have h3 := h2 x hx
        exact ⟨h3.1, h3.2.1, by omega⟩
      · have e : x = (i + 1, sc cs i + k) := by simpa using hx
        subst e
        exact ⟨rfl, by show sc cs i ≤ sc cs i + (k : Int); omega, by show sc cs i + k < sc cs i + ((k + 1 : Nat) : Int); omega⟩
theorem keysTo_pf (cs : List Int) (h0 : okTo cs 16 = true) : ∀ i, i ≤ 16 → (keysTo cs i).Pairwise PFr ∧ ∀ x ∈ keysTo cs i, x.1 ≤ i ∧ (x.2 + 1) * 2 ^ (i + 1 - x.1) ≤ sc cs i
  | 0, _ => ⟨.nil, by simp [keysTo]⟩
  | i + 1, hi => by
    obtain ⟨h1, h2⟩ := keysTo_pf cs h0 i (by omega)
    have h3 := rowKeys_pf cs i (cs.getD i 0).toNat
    have hc := okTo_at cs 16 h0 i (by omega)
    rw [keysTo]
    refine ⟨List.pairwise_append.2 ⟨h1, h3.1, fun x hx y hy => ?_⟩, fun x hx => ?_⟩
    · have a := h2 x hx
      have b := h3.2 y hy
      refine ⟨by omega, ?_⟩
      rw [b.1]
      omega
    · rw [List.mem_append] at hx
      rcases hx with hx | hx
      · have a := h2 x hx
        refine ⟨by omega, ?_⟩
        rw [show i + 1 + 1 - x.1 = (i + 1 - x.1) + 1 by omega, Int.pow_succ, ← Int.mul_assoc, sc]
        omega
      · have b := h3.2 x hx
        refine ⟨by omega, ?_⟩
        rw [b.1, show i + 1 + 1 - (i + 1) = 1 by omega, sc, Int.pow_succ, Int.pow_zero, Int.one_mul]
        omega
theorem pf_ne {y x : Nat × Int} (hy : KeyOk y) (hx : KeyOk x) (h : PFr y x) : ¬ ∀ t, t < y.1 → rbX x.2 x.1 t = rbX y.2 y.1 t := by
  intro he
  have h1 := rbX_num x.2 x.1 hx.2.1 hx.2.2 y.1 h.1
  have h2 := rbX_num y.2 y.1 hy.2.1 hy.2.2 y.1 (Nat.le_refl _)
  rw [num_congr (rbX x.2 x.1) (rbX y.2 y.1) 0 y.1 (fun j hj => he _ (by omega)), h2, Nat.sub_self, Int.pow_zero, Int.ediv_one] at h1
  have h3 := Int.le_ediv_of_mul_le (Int.pow_pos (by decide)) h.2
  omega
theorem kp_pf {K : List (Nat × Int)} (hK : K.Pairwise PFr) {p q : Nat} (h : p < q) (hq : q < K.length) : PFr (kp K p) (kp K q) := by
  have h1 : kp K p = K[p] := by simp [kp, List.getD, show p < K.length by omega]
  have h2 : kp K q = K[q] := by simp [kp, List.getD, hq]
  rw [h1, h2]
  exact List.pairwise_iff_getElem.1 hK p q (by omega) hq h
/-- Where the bits of a code stand, its symbol is read. -/
theorem sym_hit {K : List (Nat × Int)} {ss xs : List Int} {a p : Nat} (hO : ∀ x ∈ K, KeyOk x) (hK : K.Pairwise PFr) (hp : p < K.length) (hm : Mt xs a (kp K p)) : SymIs K ss xs a (ss.getD p 0) ((a : Int) + (kp K p).1) :=
  .inl ⟨p, hp, hm, fun q hq hmq => by
    have hf := kp_pf hK hq hp
    refine pf_ne (hO _ (kp_mem (by omega))) (hO _ (kp_mem hp)) hf fun t ht => ?_
    rw [← hm.2 t (Nat.lt_of_lt_of_le ht hf.1), ← hmq.2 t ht], rfl, rfl⟩
theorem bitsK_len (x : Nat × Int) : (bitsK x).length = x.1 := bl_length _ _
theorem bitsK_at (x : Nat × Int) (t : Nat) (h : t < x.1) : (bitsK x).getD t 0 = rbX x.2 x.1 t := bl_get _ _ _ h
theorem mt_mid (A B : List Int) (x : Nat × Int) : Mt (A ++ (bitsK x ++ B)) A.length x := by
  refine ⟨by rw [List.length_append, List.length_append, bitsK_len]; omega, fun t ht => ?_⟩
  have h1 : t < (bitsK x).length := by rw [bitsK_len]; exact ht
  rw [← bitsK_at x t ht]
  simp only [List.getD]
  rw [List.getElem?_append_right (by omega), Nat.add_sub_cancel_left, List.getElem?_append_left h1]
theorem pf_bits {y x : Nat × Int} (hy : KeyOk y) (hx : KeyOk x) (h : PFr y x) : (bitsK x).take y.1 ≠ bitsK y := fun e => pf_ne hy hx h fun t ht => by
  rw [← bitsK_at y t ht, ← e, ← bitsK_at x t (Nat.lt_of_lt_of_le ht h.1)]
  simp [List.getD, ht]
/-- The bits of symbols one behind the other. -/
def encP (K : List (Nat × Int)) : List Nat → List Int
  | [] => []
  | p :: P => bitsK (kp K p) ++ encP K P
theorem encP_app (K : List (Nat × Int)) : ∀ A B, encP K (A ++ B) = encP K A ++ encP K B
  | [], B => rfl
  | p :: A, B => by rw [List.cons_append, encP, encP, encP_app K A B, List.append_assoc]
def symsP (ss : List Int) (P : List Nat) : List Int := P.map fun p => ss.getD p 0
theorem take_snoc {P : List Nat} {k : Nat} (h : k < P.length) : P.take (k + 1) = P.take k ++ [P.getD k 0] := by
  rw [List.take_add_one]
  simp [List.getD, h]
theorem get_enc {K : List (Nat × Int)} {ss : List Int} {P : List Nat} (hO : ∀ x ∈ K, KeyOk x) (hK : K.Pairwise PFr) (hP : ∀ p ∈ P, p < K.length) : ∀ k, k ≤ P.length → GetTo K ss (encP K P) k (symsP ss (P.take k)) (encP K (P.take k)).length
  | 0, _ => ⟨rfl, rfl⟩
  | k + 1, h => by
    have hk : k < P.length := by omega
    have hm : P.getD k 0 < K.length := hP _ (by simp [List.getD, hk])
    have e := take_snoc hk
    have eS : encP K P = encP K (P.take k) ++ (bitsK (kp K (P.getD k 0)) ++ encP K (P.drop (k + 1))) := by
      have h1 : P = P.take k ++ (P.getD k 0 :: P.drop (k + 1)) := by
        have h2 : P.getD k 0 = P[k] := by simp [List.getD, hk]
        rw [h2, ← List.drop_eq_getElem_cons hk, List.take_append_drop]
      have h3 := congrArg (encP K) h1
      rw [encP_app] at h3
      exact h3
    refine ⟨symsP ss (P.take k), (encP K (P.take k)).length, ss.getD (P.getD k 0) 0, ((encP K (P.take k)).length : Int) + (kp K (P.getD k 0)).1, get_enc hO hK hP k (by omega), sym_hit hO hK hm ?_, by omega, ?_, ?_⟩
    · rw [eS]
      exact mt_mid _ _ _
    · rw [e, symsP, List.map_append]
      rfl
    · rw [e, encP_app, List.length_append]
      show (((encP K (P.take k)).length + (bitsK (kp K (P.getD k 0)) ++ []).length : Nat) : Int) = _
      rw [List.append_nil, bitsK_len, Int.natCast_add]
theorem encP_len {K : List (Nat × Int)} (hO : ∀ x ∈ K, KeyOk x) : ∀ {P : List Nat}, (∀ p ∈ P, p < K.length) → (encP K P).length ≤ 16 * P.length
  | [], _ => by simp [encP]
  | p :: P, h => by
    have h1 := encP_len hO (P := P) (fun q hq => h q (List.mem_cons_of_mem _ hq))
    have h2 := (hO _ (kp_mem (h p (List.mem_cons_self ..)))).1.2
    rw [encP, List.length_append, bitsK_len, List.length_cons]
    omega
theorem put_enc {cs ss : List Int} {P : List Nat} (hr : rightC cs ss = true) (hP : ∀ p ∈ P, p < ss.length) (hn : P.length ≤ 12) : ∀ k, k ≤ P.length → putTo cs ss (symsP ss P) k = some (encP (keysTo cs 16) (P.take k))
  | 0, _ => rfl
  | k + 1, h => by
    obtain ⟨⟨hl, hok, ht, hroom⟩, htold, hap⟩ := (right_iff cs ss).1 hr
    have hO := keysTo_ok cs hok hroom 16 (Nat.le_refl _)
    have hkl := keys_len cs ss hr
    have hk : k < P.length := by omega
    have hm : P.getD k 0 < ss.length := hP _ (by simp [List.getD, hk])
    have e := take_snoc hk
    have eX : (symsP ss P).getD k 0 = ss.getD (P.getD k 0) 0 := by simp [symsP, List.getD, hk]
    have eC := codeL_hit cs ss hr (P.getD k 0) hm _ (kp_some (by omega))
    have hb := (hO _ (kp_mem (show P.getD k 0 < (keysTo cs 16).length by omega))).1
    have hle : (encP (keysTo cs 16) (P.take k)).length ≤ 16 * 12 := by
      have h1 := encP_len hO (P := P.take k) (fun q hq => by have := hP q (List.mem_of_mem_take hq); omega)
      have h2 : (P.take k).length ≤ 12 := by rw [List.length_take]; omega
      omega
    have := putTo_good (put_enc hr hP hn k (by omega)) (by
      rw [eX, eC, bitsK_len]
      omega)
    rw [this, eX, eC, e, encP_app]
    show some (_ ++ _) = some (_ ++ (_ ++ []))
    rw [List.append_nil]
/-- What PutSyms answers to symbols of the codes. -/
theorem putR_enc {cs ss : List Int} {P : List Nat} (hr : rightC cs ss = true) (hP : ∀ p ∈ P, p < ss.length) (hn : P.length ≤ 12) : putR cs ss (symsP ss P) = (encP (keysTo cs 16) P, true) := by
  have h := put_enc hr hP hn P.length (Nat.le_refl _)
  rw [List.take_length] at h
  exact putR_some hr (by rw [show (symsP ss P).length = P.length from List.length_map _]; exact h)
/-- What GetSyms answers to them. -/
theorem getR_enc {cs ss : List Int} {P : List Nat} (hr : rightC cs ss = true) (hP : ∀ p ∈ P, p < ss.length) (hn : P.length ≤ 12) {R : List Int} {F : Bool} (h : GetR cs ss (encP (keysTo cs 16) P) (P.length : Int) R F) : R = symsP ss P ∧ F = true := by
  obtain ⟨⟨hl, hok, ht, hroom⟩, htold, hap⟩ := (right_iff cs ss).1 hr
  have hO := keysTo_ok cs hok hroom 16 (Nat.le_refl _)
  have hK := (keysTo_pf cs hok 16 (Nat.le_refl _)).1
  have hkl := keys_len cs ss hr
  have hg := get_enc (ss := ss) hO hK (P := P) (fun p hp => by have := hP p hp; omega) P.length (Nat.le_refl _)
  rw [List.take_length] at hg
  exact h.one (.inl ⟨⟨hr, by omega, by omega⟩, rfl, _, by rw [Int.toNat_natCast]; exact hg⟩)
theorem getR_more {cs ss : List Int} {P : List Nat} (hr : rightC cs ss = true) (hP : ∀ p ∈ P, p < ss.length) (hn : P.length ≤ 12) {R : List Int} {F : Bool} (h : GetR cs ss (encP (keysTo cs 16) P) ((P.length : Int) + 1) R F) : F = false := by
  obtain ⟨⟨hl, hok, ht, hroom⟩, htold, hap⟩ := (right_iff cs ss).1 hr
  have hO := keysTo_ok cs hok hroom 16 (Nat.le_refl _)
  have hK := (keysTo_pf cs hok 16 (Nat.le_refl _)).1
  have hkl := keys_len cs ss hr
  have hg := get_enc (ss := ss) hO hK (P := P) (fun p hp => by have := hP p hp; omega) P.length (Nat.le_refl _)
  rw [List.take_length] at hg
  exact (h.one (o' := []) (b' := false) (.inr (.inl ⟨⟨hr, by omega, by omega⟩, rfl, rfl, P.length, _, _, by omega, hg, .inr ⟨fun q hq hm => by
    have h1 := hm.1
    have h2 := (hO _ (kp_mem hq)).1.1
    omega, rfl, rfl⟩⟩))).2
/-- The code of the p-th symbol. -/
theorem code_at {cs ss : List Int} (hr : rightC cs ss = true) {p : Nat} (hp : p < ss.length) : codeR cs ss (ss.getD p 0) = bitsK (kp (keysTo cs 16) p) := by
  unfold codeR
  rw [if_pos hr]
  exact codeL_hit cs ss hr p hp _ (kp_some (by rw [keys_len cs ss hr]; exact hp))
theorem code_len {cs ss : List Int} (hr : rightC cs ss = true) {p : Nat} (hp : p < ss.length) : 1 ≤ (bitsK (kp (keysTo cs 16) p)).length ∧ (bitsK (kp (keysTo cs 16) p)).length ≤ 16 := by
  obtain ⟨⟨hl, hok, ht, hroom⟩, htold, hap⟩ := (right_iff cs ss).1 hr
  have hO := keysTo_ok cs hok hroom 16 (Nat.le_refl _)
  rw [bitsK_len]
  exact (hO _ (kp_mem (by rw [keys_len cs ss hr]; exact hp))).1
theorem code_two {cs ss : List Int} (hr : rightC cs ss = true) {q p : Nat} (hq : q < p) (hp : p < ss.length) : (bitsK (kp (keysTo cs 16) q)).length ≤ (bitsK (kp (keysTo cs 16) p)).length ∧ (bitsK (kp (keysTo cs 16) p)).take (bitsK (kp (keysTo cs 16) q)).length ≠ bitsK (kp (keysTo cs 16) q) := by
  obtain ⟨⟨hl, hok, ht, hroom⟩, htold, hap⟩ := (right_iff cs ss).1 hr
  have hO := keysTo_ok cs hok hroom 16 (Nat.le_refl _)
  have hK := (keysTo_pf cs hok 16 (Nat.le_refl _)).1
  have hkl := keys_len cs ss hr
  have hf := kp_pf hK hq (by omega)
  have hne := pf_bits (hO _ (kp_mem (by omega))) (hO _ (kp_mem (by omega))) hf
  rw [bitsK_len, bitsK_len]
  exact ⟨hf.1, hne⟩
theorem symR_hit {cs ss xs : List Int} {a : Nat} {i r0 r1 : Int} (hi : i = (a : Int)) (h : MayAt cs ss xs i) (g : SymIs (keysTo cs 16) ss xs a r0 r1) : SymR cs ss xs i r0 r1 := by
  subst hi
  exact .inl ⟨h, by rw [Int.toNat_natCast]; exact g⟩
theorem code_sym {cs ss : List Int} (hr : rightC cs ss = true) {p : Nat} (hp : p < ss.length) {r0 r1 : Int} (h : SymR cs ss (1 :: bitsK (kp (keysTo cs 16) p)) 1 r0 r1) : r0 = ss.getD p 0 ∧ r1 = 1 + ((bitsK (kp (keysTo cs 16) p)).length : Int) := by
  obtain ⟨⟨hl, hok, ht, hroom⟩, htold, hap⟩ := (right_iff cs ss).1 hr
  have hO := keysTo_ok cs hok hroom 16 (Nat.le_refl _)
  have hK := (keysTo_pf cs hok 16 (Nat.le_refl _)).1
  have hkl := keys_len cs ss hr
  have hG := fun (xs : List Int) (r0 r1 : Int) (hm : MayAt cs ss xs 1) (g : SymIs (keysTo cs 16) ss xs 1 r0 r1) => symR_hit (a := 1) rfl hm g
  have hone := fun (xs : List Int) (r0 r1 s0 s1 : Int) (a : SymR cs ss xs 1 r0 r1) (b : SymR cs ss xs 1 s0 s1) => SymR.one a b
  generalize keysTo cs 16 = K at *
  generalize hx : kp K p = x at *
  have hm : Mt (1 :: bitsK x) 1 x := by
    have h3 := mt_mid [1] [] x
    rw [List.append_nil] at h3
    exact h3
  have h4 := sym_hit (ss := ss) (xs := 1 :: bitsK x) (a := 1) (p := p) hO hK (by omega) (by rw [hx]; exact hm)
  rw [hx] at h4
  have hlen := bitsK_len x
  generalize bitsK x = B at *
  obtain ⟨e1, e2⟩ := hone _ _ _ _ _ h (hG _ _ _ ⟨hr, by decide, by rw [List.length_cons]; omega⟩ h4)
  refine ⟨e1, ?_⟩
  rw [e2, hlen]
  rfl
theorem code_none {cs ss : List Int} : codeR cs ss 300 = [] := by
  unfold codeR
  split
  · exact codeL_out cs ss 300 (by decide)
  · rfl
end Go.Proofs.Ytmdmolofiblbmaa
