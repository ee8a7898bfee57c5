/- Contracts of the marks of ints and of rows of blocks: what they write into, and what they leave alone. -/
import Derived.Test.YtnnakmgngkpghaaRows3
namespace Go.Proofs.Ytnnakmgngkpghaa
open Go.RowKit
set_option linter.unusedVariables false

/-- Of what was there, only blocks from B on and below m have turned. -/
def Spare (B m : Nat) (w w' : World) : Prop := w'.os = w.os ∧ w'.tape = w.tape ∧ w'.output = w.output ∧ w.heap.size ≤ w'.heap.size ∧ ∀ g, g < w.heap.size → g < B ∨ m ≤ g → w'.heap[g]? = w.heap[g]?
theorem Spare.refl (B m : Nat) (w : World) : Spare B m w w := ⟨rfl, rfl, rfl, Nat.le_refl _, fun _ _ _ => rfl⟩
theorem Spare.trans {B m : Nat} {a b c : World} (h : Spare B m a b) (k : Spare B m b c) : Spare B m a c :=
  ⟨k.1.trans h.1, k.2.1.trans h.2.1, k.2.2.1.trans h.2.2.1, Nat.le_trans h.2.2.2.1 k.2.2.2.1, fun g hg hc => (k.2.2.2.2 g (Nat.lt_of_lt_of_le hg h.2.2.2.1) hc).trans (h.2.2.2.2 g hg hc)⟩
theorem Spare.ofBelow {B m : Nat} {a b : World} (h : Below a.heap.size a b) : Spare B m a b := ⟨h.os, h.tape, h.output, h.size, fun g hg _ => h.block g hg⟩
theorem Spare.ofOnly {B m g : Nat} {a b : World} (h : Only g a b) (h0 : B ≤ g) (h1 : g < m) : Spare B m a b := ⟨h.1, h.2.1, h.2.2.1, by rw [h.2.2.2.1]; exact Nat.le_refl _, fun k _ hk => h.2.2.2.2 k (by omega)⟩
theorem Spare.below {B m : Nat} {a b : World} (h : Spare B m a b) (hB : B ≤ a.heap.size) : Below B a b := ⟨h.1, h.2.1, h.2.2.1, h.2.2.2.1, fun k hk => h.2.2.2.2 k (Nat.lt_of_lt_of_le hk hB) (.inl hk)⟩
theorem Spare.own {B m base : Nat} {a b : World} {e : TypeId} {k : IntKind} {v : Value} {xs : List Int} (h : Spare B m a b) (ho : Own a base e k v xs) (hb : m ≤ base) : Own b base e k v xs := by
  refine ⟨Nat.le_trans ho.1 h.2.2.2.1, ho.2.1, ?_⟩
  rcases ho.2.2 with h0 | ⟨g, cap, cur, hv, hg, hh, r⟩
  · exact .inl h0
  · exact .inr ⟨g, cap, cur, hv, hg, (h.2.2.2.2 g (Array.getElem?_eq_some_iff.1 hh).1 (.inr (by omega))).trans hh, r⟩
theorem Spare.two {B m b : Nat} {w w' : World} {x y : Value} {t : TypeId} (h : Spare B m w w') (ht : Two w b x y t) (hb : b < B ∨ m ≤ b) : Two w' b x y t := (h.2.2.2.2 b ht.lt hb).trans ht


/-- Only blocks from B on and below m have turned; rows of ints are rows of ints as before, and all else is as it was. -/
def Soft (B m : Nat) (w w' : World) : Prop := Spare B m w w' ∧ (∀ (b : Nat) (cur : Array Value), Arr w b cur 3 → ∃ cur', Arr w' b cur' 3 ∧ ∀ (j : Nat) (x : Int), cur[j]? = some (.int .i64 x) → ∃ x' : Int, cur'[j]? = some (.int .i64 x')) ∧
  ∀ (b : Nat) (cur : Array Value) (t : TypeId), t ≠ 3 → Arr w b cur t → Arr w' b cur t
theorem Soft.refl (B m : Nat) (w : World) : Soft B m w w := ⟨Spare.refl _ _ _, fun b cur h => ⟨cur, h, fun j x hx => ⟨x, hx⟩⟩, fun _ _ _ _ h => h⟩
theorem Soft.trans {B m : Nat} {a b c : World} (h : Soft B m a b) (k : Soft B m b c) : Soft B m a c := by
  refine ⟨h.1.trans k.1, fun g cur hg => ?_, fun g cur t ht hg => k.2.2 g cur t ht (h.2.2 g cur t ht hg)⟩
  obtain ⟨c1, h1, h2⟩ := h.2.1 g cur hg
  obtain ⟨c2, k1, k2⟩ := k.2.1 g c1 h1
  refine ⟨c2, k1, fun j x hx => ?_⟩
  obtain ⟨x1, hx1⟩ := h2 j x hx
  exact k2 j x1 hx1
theorem Soft.set {B m b k : Nat} {w : World} {cur : Array Value} (h : Arr w b cur 3) (hB : B ≤ b) (hm : b < m) (y v : Int) (hy : cur[k]? = some (.int .i64 y)) : Soft B m w (w.setCell ⟨b, k, none⟩ (.int .i64 v)) := by
  have hk : k < cur.size := (Array.getElem?_eq_some_iff.1 hy).1
  refine ⟨Spare.ofOnly ((Only.refl b w).setCell k _) hB hm, fun g c hg => ?_, fun g c t ht hg => ?_⟩
  · by_cases e : g = b
    · subst e
      have : c = cur := by
        unfold Arr at h hg
        rw [h] at hg
        cases hg
        rfl
      subst this
      refine ⟨_, h.set k _, fun j x hx => ?_⟩
      by_cases ej : j = k
      · subst ej
        exact ⟨v, by rw [Array.getElem?_setIfInBounds_self_of_lt hk]⟩
      · exact ⟨x, by rw [Array.getElem?_setIfInBounds_ne (fun e => ej e.symm)]; exact hx⟩
    · exact ⟨c, hg.other e _, fun j x hx => ⟨x, hx⟩⟩
  · have e : g ≠ b := fun e => by
      subst e
      unfold Arr at h hg
      rw [h] at hg
      cases hg
      exact ht rfl
    exact hg.other e _

/-- A slice of ints in memory between B and m, whatever the ints are. -/
def IntB (B m : Nat) (w : World) (y : Value) (n : Nat) : Prop :=
  (y = .slice none 0 0 ∧ n = 0) ∨ ∃ b cap cur, y = .slice (some ⟨b, 0, none⟩) n cap ∧ B ≤ b ∧ b < m ∧ Arr w b cur 3 ∧ ∀ j, j < n → ∃ x : Int, cur[j]? = some (.int .i64 x)
theorem IntB.soft {B m : Nat} {w w' : World} {y : Value} {n : Nat} (h : IntB B m w y n) (hs : Soft B m w w') : IntB B m w' y n := by
  rcases h with h | ⟨b, cap, cur, h1, h2, h3, h4, h5⟩
  · exact .inl h
  · obtain ⟨c1, k1, k2⟩ := hs.2.1 b cur h4
    refine .inr ⟨b, cap, c1, h1, h2, h3, k1, fun j hj => ?_⟩
    obtain ⟨x, hx⟩ := h5 j hj
    exact k2 j x hx
theorem IntB.shape {B m : Nat} {w : World} {y : Value} {n : Nat} (h : IntB B m w y n) : ∃ ao c, y = .slice ao n c := by
  rcases h with ⟨h1, h2⟩ | ⟨b, cap, cur, h1, _⟩
  · exact ⟨none, 0, by rw [h1, h2]⟩
  · exact ⟨_, _, h1⟩
theorem Own.intB {B m : Nat} {w : World} {base : Nat} {y : Value} {xs : List Int} (h : Own w base 3 .i64 y xs) (hB : B ≤ base) (hm : ∀ a n c, y = .slice (some a) n c → a.block < m) : IntB B m w y xs.length := by
  rcases h.2.2 with ⟨h1, h2⟩ | ⟨g, cap, cur, hv, hg, hh, hle, _, hsz, htake⟩
  · exact .inl ⟨h1, h2⟩
  · subst hv
    refine .inr ⟨g, cap, cur, rfl, by omega, hm _ _ _ rfl, hh, fun j hj => ?_⟩
    have hc := h.cell rfl j hj
    rw [Addr.add_lit, Nat.zero_add] at hc
    have ha : Arr w g cur 3 := hh
    exact ⟨_, (ha.cell j).symm.trans hc⟩

set_option maxHeartbeats 800000 in
theorem mark_ints (B m : Nat) (v : Value) (n : Nat) (s : Int) (w : World) (hn : n ≤ 1048576) (h0 : 0 ≤ s) (h1 : s ≤ 4000000000000000000) (ho : IntB B m w v n) :
    Calls Try.prog 11 #[v, .int .i64 s] w fun e w' => e = .returned (.int .i64 (s + n)) ∧ Soft B m w w' := by
  rcases ho with ⟨rfl, rfl⟩ | ⟨b, cap, cur, rfl, hB, hm, harr, hall⟩
  · go_enter Try.func11, Try.ntmps11
    go_wp2
    go_loop [1, 5] (fun m i => m = .int .i64 s ∧ i = .int .i64 0) (fun _ _ => 0)
    case atStart => exact ⟨rfl, rfl⟩
    case round =>
      obtain ⟨rfl, rfl⟩ := hrel
      go_wp2
      go_ret
      exact ⟨ret_int (by simp), Soft.refl _ _ _⟩
  · have HA := hid harr
    have HALL := hid hall
    clear harr hall
    go_enter Try.func11, Try.ntmps11
    go_wp2
    go_loopw [1, 5] (fun m2 i wr => ∃ (k : Nat) (c : Array Value), k ≤ n ∧ i = .int .i64 k ∧ m2 = .int .i64 (s + (k : Int)) ∧ Hid (Arr wr b c 3) ∧ Hid (∀ j, j < n → ∃ x : Int, c[j]? = some (.int .i64 x)) ∧ Hid (Soft B m w wr)) (fun _ i _ => n - (intOf i).toNat)
    case atStart => exact ⟨0, cur, by omega, rfl, by simp, HA.out, HALL.out, Soft.refl _ _ _⟩
    case round =>
      obtain ⟨k, c, hk, rfl, rfl, har, hints, hsoft⟩ := hrel
      by_cases hlt : k < n
      · obtain ⟨y, hy⟩ := hints.out k hlt
        have hlt' : (k : Int) < (n : Int) := by omega
        have hold : wr.cell? ⟨b, k, none⟩ = some (.int .i64 y) := (har.out.cell k).trans hy
        have hfree := har.out.free k
        have HSET := hid (Soft.set har.out hB hm y (s + (k : Int)) hy)
        have HARR := hid (har.out.set k (.int .i64 (s + (k : Int))))
        have HNEW : Hid (∀ j, j < n → ∃ x : Int, (c.setIfInBounds k (.int .i64 (s + (k : Int))))[j]? = some (.int .i64 x)) := hid (fun j hj => by
          by_cases e : j = k
          · subst e
            exact ⟨_, by rw [Array.getElem?_setIfInBounds_self_of_lt (Array.getElem?_eq_some_iff.1 hy).1]⟩
          · obtain ⟨x, hx⟩ := hints.out j hj
            exact ⟨x, by rw [Array.getElem?_setIfInBounds_ne (fun e' => e e'.symm)]; exact hx⟩)
        clear hy
        go_wp2
        go_roundw
        case rel => exact ⟨k + 1, _, by omega, by go_num, by go_num, HARR.out, HNEW.out, hsoft.out.trans HSET.out⟩
        case measure => simp [intOf]; omega
      · obtain rfl : k = n := by omega
        go_wp2
        go_ret
        exact ⟨rfl, hsoft.out⟩

/-- A row of blocks whose numbers may be whatever. -/
def RowM (B m : Nat) (w : World) (g n : Nat) (ys : Nat → Value) (ns : Nat → Nat) : Prop :=
  ∃ arr, Arr w g arr 49 ∧ ∀ j, j < n → (∃ d : Int, arr[j * 2]? = some (.int .i64 d)) ∧ arr[j * 2 + 1]? = some (ys j) ∧ IntB B m w (ys j) (ns j)
theorem RowM.soft {B m : Nat} {w w' : World} {g n : Nat} {ys : Nat → Value} {ns : Nat → Nat} (h : RowM B m w g n ys ns) (hs : Soft B m w w') : RowM B m w' g n ys ns := by
  obtain ⟨arr, h1, h2⟩ := h
  refine ⟨arr, hs.2.2 g arr 49 (by decide) h1, fun j hj => ?_⟩
  obtain ⟨k1, k2, k3⟩ := h2 j hj
  exact ⟨k1, k2, k3.soft hs⟩
theorem RowM.set {B m : Nat} {w : World} {g n k : Nat} {ys : Nat → Value} {ns : Nat → Nat} (h : RowM B m w g n ys ns) (hk : k < n) (x : Int) : RowM B m (w.setCell ⟨g, k * 2, none⟩ (.int .i64 x)) g n ys ns := by
  obtain ⟨arr, h1, h2⟩ := h
  refine ⟨_, h1.set (k * 2) _, fun j hj => ?_⟩
  obtain ⟨⟨d, k1⟩, k2, k3⟩ := h2 j hj
  refine ⟨?_, ?_, ?_⟩
  · by_cases e : j = k
    · subst e
      exact ⟨x, by rw [Array.getElem?_setIfInBounds_self_of_lt (Array.getElem?_eq_some_iff.1 k1).1]⟩
    · exact ⟨d, by rw [Array.getElem?_setIfInBounds_ne (by omega)]; exact k1⟩
  · rw [Array.getElem?_setIfInBounds_ne (by omega)]
    exact k2
  · rcases k3 with k3 | ⟨b, cap, cur, q1, q2, q3, q4, q5⟩
    · exact .inl k3
    · have e : b ≠ g := fun e => by
        subst e
        unfold Arr at h1 q4
        rw [h1] at q4
        cases q4
      exact .inr ⟨b, cap, cur, q1, q2, q3, q4.other e _, q5⟩

end Go.Proofs.Ytnnakmgngkpghaa
