/- Contracts of markIntS and markCodes: what they write into, and what they leave alone. -/
import Derived.Test.YtedabeemmhfmlaaCodePlain
namespace Go.Proofs.Ytedabeemmhfmlaa
open Go.RowKit
set_option linter.unusedVariables false

/-- Of what was there, only blocks from B on and below m have turned. -/
def Spare (B m : Nat) (w w' : World) : Prop := w'.os = w.os ∧ w'.tape = w.tape ∧ w'.output = w.output ∧ w.heap.size ≤ w'.heap.size ∧ ∀ g, g < w.heap.size → g < B ∨ m ≤ g → w'.heap[g]? = w.heap[g]?
theorem Spare.refl (B m : Nat) (w : World) : Spare B m w w := ⟨rfl, rfl, rfl, Nat.le_refl _, fun _ _ _ => rfl⟩
theorem Spare.trans {B m : Nat} {a b c : World} (h : Spare B m a b) (k : Spare B m b c) : Spare B m a c :=
  ⟨k.1.trans h.1, k.2.1.trans h.2.1, k.2.2.1.trans h.2.2.1, Nat.le_trans h.2.2.2.1 k.2.2.2.1, fun g hg hc => (k.2.2.2.2 g (Nat.lt_of_lt_of_le hg h.2.2.2.1) hc).trans (h.2.2.2.2 g hg hc)⟩
theorem Spare.ofBelow {B m : Nat} {a b : World} (h : Below a.heap.size a b) : Spare B m a b := ⟨h.os, h.tape, h.output, h.size, fun g hg _ => h.block g hg⟩
theorem Spare.ofOnly {B m g : Nat} {a b : World} (h : Only g a b) (h0 : B ≤ g) (h1 : g < m) : Spare B m a b := ⟨h.1, h.2.1, h.2.2.1, by rw [h.2.2.2.1]; exact Nat.le_refl _, fun k _ hk => h.2.2.2.2 k (by omega)⟩
theorem Spare.below {B m : Nat} {a b : World} (h : Spare B m a b) (hB : B ≤ a.heap.size) : Below B a b := ⟨h.1, h.2.1, h.2.2.1, h.2.2.2.1, fun k hk => h.2.2.2.2 k (Nat.lt_of_lt_of_le hk hB) (.inl hk)⟩
theorem Spare.own {B m base : Nat} {a b : World} {e : TypeId} {k : IntKind} {v : Value} {xs : List Int} (h : Spare B m a b) (ho : Own a base e k v xs) (hb : m ≤ base) : Own b base e k v xs := by
  refine ⟨Nat.le_trans ho.1 h.2.2.2.1, ho.2.1, ?_⟩
  rcases ho.2.2 with h0 | ⟨g, cap, cur, hv, hg, hh, r⟩
  · exact .inl h0
  · exact .inr ⟨g, cap, cur, hv, hg, (h.2.2.2.2 g (Array.getElem?_eq_some_iff.1 hh).1 (.inr (by omega))).trans hh, r⟩
theorem Spare.two {B m b : Nat} {w w' : World} {x y : Value} {t : TypeId} (h : Spare B m w w') (ht : Two w b x y t) (hb : b < B ∨ m ≤ b) : Two w' b x y t := (h.2.2.2.2 b ht.lt hb).trans ht

set_option maxHeartbeats 800000 in
/-- Marks s, s + 1, .. are written into the slice, and nowhere else. -/
theorem mark_from (base m : Nat) (v : Value) (ys : List Int) (s : Int) (w : World) (hn : ys.length ≤ 1000000000) (h0 : 0 ≤ s) (h1 : s ≤ 1000000000) (hm : ∀ a n c, v = .slice (some a) n c → a.block < m) (ho : Own w base 3 .i64 v ys) :
    Calls Try.prog 29 #[v, .int .i64 s] w fun e w' => e = .returned (.int .i64 (s + ys.length)) ∧ Spare base m w w' ∧ ∃ zs, Own w' base 3 .i64 v zs := by
  rcases ho.2.2 with ⟨rfl, hz⟩ | ⟨g, cap, cur, rfl, _⟩
  · have e : ys = [] := List.length_eq_zero_iff.1 hz
    subst e
    have HO := hid ho
    clear ho
    go_enter Try.func29, Try.ntmps29
    go_wp2
    go_loop [1, 5] (fun m i => m = .int .i64 s ∧ i = .int .i64 0) (fun _ _ => 0)
    case atStart => exact ⟨rfl, rfl⟩
    case round =>
      obtain ⟨rfl, rfl⟩ := hrel
      go_wp2
      go_ret
      exact ⟨ret_int (by simp), Spare.refl _ _ _, _, HO.out⟩
  · have HO := hid ho
    have hge := ho.ge.1
    have hgm := hm _ _ _ rfl
    generalize hN : ys.length = n at *
    clear ho hN
    go_enter Try.func29, Try.ntmps29
    go_wp2
    go_loopw [1, 5] (fun m2 i wr => ∃ (k : Nat) (zs : List Int), k ≤ n ∧ i = .int .i64 k ∧ m2 = .int .i64 (s + (k : Int)) ∧ Hid (zs.length = n) ∧ Own wr base 3 .i64 (.slice (some ⟨g, 0, none⟩) n cap) zs ∧ Hid (Only g w wr)) (fun _ i _ => n - (intOf i).toNat)
    case atStart => exact ⟨0, ys, by omega, rfl, by simp, by have := HO.out.len; exact this.symm, HO.out, Only.refl _ _⟩
    case round =>
      obtain ⟨k, zs, hk, rfl, rfl, hzs, hown, hb⟩ := hrel
      by_cases hlt : k < n
      · have hold := hown.at k (by have := hzs.out; omega)
        have hfree := hown.free k
        have HNEW := hid (hown.store k (s + (k : Int)))
        generalize zs.getD k 0 = Y at *
        go_wp2
        go_roundw
        case rel => exact ⟨k + 1, _, by omega, by go_num, by go_num, by show _ = _; simp; exact hzs.out, HNEW.out, hb.out.setCell k _⟩
        case measure => simp [intOf]; omega
      · obtain rfl : k = n := by omega
        go_wp2
        go_ret
        exact ⟨rfl, Spare.ofOnly hb.out hge hgm, _, hown⟩

set_option maxHeartbeats 800000 in
theorem markCodes (base m : Nat) (v : Value) (cs ss : List Int) (w : World) (h0 : cs.length ≤ 1048576) (h1 : ss.length ≤ 1048576) (hm : m ≤ w.heap.size)
    (hv : ∃ va vb, v = .agg #[va, vb] ∧ Own w base 3 .i64 va cs ∧ (∃ mid, base ≤ mid ∧ Own w mid 3 .i64 vb ss ∧ ∀ a n c, va = .slice (some a) n c → a.block < mid) ∧ (∀ a n c, va = .slice (some a) n c → a.block < m) ∧ ∀ a n c, vb = .slice (some a) n c → a.block < m) :
    Calls Try.prog 28 #[v, .int .i64 1] w fun e w' => (∃ r : Int, e = .returned (.int .i64 r) ∧ (0 ≤ r ∧ r ≤ 3000000)) ∧ Spare base m w w' := by
  obtain ⟨va, vb, rfl, hva, ⟨mid, hbm, hvb, hmid⟩, hma, hmb⟩ := hv
  obtain ⟨ao, ac, rfl⟩ := hva.shape
  obtain ⟨bo, bc, rfl⟩ := hvb.shape
  have hB : Below w.heap.size w (w.alloc (.cells #[.slice ao cs.length ac, .slice bo ss.length bc] 26)) := (Below.refl w.heap.size w).alloc (Nat.le_refl _) _
  have HT := hid (Two.new w (.slice ao cs.length ac) (.slice bo ss.length bc) 26)
  have HS0 := hid (show Spare base m w (w.alloc (.cells #[.slice ao cs.length ac, .slice bo ss.length bc] 26)) from Spare.ofBelow hB)
  have HM := hid (mark_from base (min m mid) _ cs 1 _ (by omega) (by decide) (by decide) (fun a n c e => by have h1 := hma a n c e; have h2 := hmid a n c e; omega) (hva.below hB))
  have HVB := hid (hvb.below hB)
  have HMB := hid hmb
  clear hva hvb hma hmb hmid hB
  go_enter Try.func28, Try.ntmps28
  go_wp2_with fail
  refine HM.out.mono ?_
  generalize w.alloc (.cells #[.slice ao cs.length ac, .slice bo ss.length bc] 26) = wa at *
  rintro e w1 ⟨rfl, hsp, zs, hz⟩
  have HS1 := hid (show Spare base m wa w1 from ⟨hsp.1, hsp.2.1, hsp.2.2.1, hsp.2.2.2.1, fun g hg hc => hsp.2.2.2.2 g hg (by omega)⟩)
  have HVB1 := hid (hsp.own HVB.out (by omega))
  have T1 := hid (hsp.two HT.out (.inr (by omega)))
  clear hsp hz HM
  obtain ⟨q1, q2, q3, q4⟩ := T1.out.cells
  go_wp2_with fail
  refine (mark_from mid m _ ss (1 + (cs.length : Int)) w1 (by omega) (by omega) (by omega) HMB.out HVB1.out).mono ?_
  rintro e w2 ⟨rfl, hsp, zs2, hz2⟩
  have HS2 := hid (HS0.out.trans (HS1.out.trans (show Spare base m w1 w2 from ⟨hsp.1, hsp.2.1, hsp.2.2.1, hsp.2.2.2.1, fun g hg hc => hsp.2.2.2.2 g hg (by omega)⟩)))
  clear hsp hz2
  go_wp2
  go_ret
  exact ⟨⟨_, rfl, by omega, by omega⟩, HS2.out⟩
end Go.Proofs.Ytedabeemmhfmlaa
