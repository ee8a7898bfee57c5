/- Contracts of the specification's finding of a symbol: l02At, l02Sym. -/
import Derived.Test.YtcikmgdfelejpaaJGf
namespace Go.Proofs.Ytcikmgdfelejpaa
open Go.RowKit Go.Maps
set_option linter.unusedVariables false

/-- The numbers ys stand in xs from i on. -/
def At (xs : List Int) (i : Nat) (ys : List Int) : Prop := i + ys.length ≤ xs.length ∧ ∀ t, t < ys.length → xs.getD (i + t) 0 = ys.getD t 0
theorem at_key (xs : List Int) (i : Nat) (x : Nat × Int) : At xs i (bitsK x) ↔ Mt xs i x := by
  have hl : (bitsK x).length = x.1 := bl_length _ _
  unfold At Mt
  rw [hl]
  refine ⟨fun ⟨h1, h2⟩ => ⟨h1, fun t ht => ?_⟩, fun ⟨h1, h2⟩ => ⟨h1, fun t ht => ?_⟩⟩
  · rw [h2 t ht, bitsK, bl_get _ _ _ ht]
  · rw [h2 t ht, bitsK, bl_get _ _ _ ht]

set_option maxHeartbeats 800000 in
theorem at_any (ao bo : Option Addr) (cap cap' : Nat) (xs ys : List Int) (i : Nat) (w : World) (hn : xs.length ≤ 1048576) (hm : ys.length ≤ 1048576) (hi : i ≤ xs.length) (ha : View .i64 w ao xs.length xs) (hb : View .i64 w bo ys.length ys) :
    Calls Try.prog 97 #[.slice ao xs.length cap, .int .i64 i, .slice bo ys.length cap'] w fun e w' => ∃ b : Bool, e = .returned (.bool b) ∧ (b = true ↔ At xs i ys) ∧ Below w.heap.size w w' := by
  have HA := hid ha
  have HB := hid hb
  clear ha hb
  by_cases hl : (xs.length : Int) - i < ys.length
  · go_enter Try.func97, Try.ntmps97
    go_wp2
    go_ret
    refine ⟨false, rfl, ⟨fun h => Bool.noConfusion h, fun h => ?_⟩, Below.refl _ _⟩
    have := h.1
    omega
  · have hl2 : i + ys.length ≤ xs.length := by omega
    go_enter Try.func97, Try.ntmps97
    go_wp2
    go_loopw [7] (fun k wr => ∃ t : Nat, t ≤ ys.length ∧ k = .int .i64 t ∧ Hid (∀ s, s < t → xs.getD (i + s) 0 = ys.getD s 0) ∧ ∃ q, wr = w.drewN q) (fun k _ => ys.length - (intOf k).toNat)
    case atStart => exact ⟨0, by omega, rfl, fun s hs => by omega, 0, rfl⟩
    case round =>
      obtain ⟨t, ht, rfl, hs, q, rfl⟩ := hrel
      by_cases hlt : t < ys.length
      · obtain ⟨b, off, rfl, hc⟩ := HA.out.2 (i + t) (by omega)
        obtain ⟨b', off', rfl, hc'⟩ := HB.out.2 t hlt
        have hlt' : (t : Int) < (ys.length : Int) := by omega
        obtain ⟨j, hj⟩ : ∃ j, j = i + t := ⟨_, rfl⟩
        have hlt2 : (j : Int) < (xs.length : Int) := by omega
        have hwj : IntKind.i64.wrap ((i : Int) + t) = (j : Int) := by
          rw [IntKind.wrap_i64]
          omega
        have HN := hid (fun (e : xs.getD (i + t) 0 = ys.getD t 0) s (h : s < t + 1) => (show xs.getD (i + s) 0 = ys.getD s 0 by
          by_cases e2 : s = t
          · rw [e2]; exact e
          · exact hs.out s (by omega)))
        have HF := hid (fun (e : xs.getD (i + t) 0 ≠ ys.getD t 0) (h : At xs i ys) => e (h.2 t hlt))
        generalize xs.getD (i + t) 0 = X at *
        generalize ys.getD t 0 = Y at *
        rw [← hj] at hc
        clear hj
        by_cases hXY : X = Y
        · have hd : (X != Y) = false := by simp [hXY]
          have HN2 := hid (HN.out hXY)
          clear HN HF hXY
          go_wp2
          go_quiet (fail)
          go_wp2
          go_roundw
          case rel => exact ⟨t + 1, by omega, by go_num, HN2.out, _, rfl⟩
          case measure => simp [intOf]; omega
        · have hd : (X != Y) = true := by simp [hXY]
          have HF2 := hid (HF.out hXY)
          clear HN HF hXY
          go_wp2
          go_quiet (fail)
          go_wp2
          go_ret
          exact ⟨false, rfl, ⟨fun h => Bool.noConfusion h, fun h => absurd h HF2.out⟩, belowN (belowN (Below.refl _ _) _) _⟩
      · obtain rfl : t = ys.length := by omega
        go_wp2
        go_ret
        exact ⟨true, rfl, ⟨fun _ => ⟨hl2, hs.out⟩, fun _ => rfl⟩, belowN (Below.refl _ _) _⟩

/-- Slices that read as the codes of the keys stay so where all blocks stay what they are. -/
theorem AllAt.below {w w' : World} {base : Nat} {v : Value} {K : List (Nat × Int)} (h : AllAt w base v K) (hb : Below w.heap.size w w') : AllAt w' base v K := by
  obtain ⟨vs, h1, h2, h3⟩ := h
  refine ⟨vs, h1, h2.below hb, fun p x hx => ?_⟩
  obtain ⟨y, h4, h5⟩ := h3 p x hx
  exact ⟨y, h4, h5.below hb⟩

set_option maxRecDepth 100000 in
set_option maxHeartbeats 1600000 in
theorem sym_spec (v va : Value) (cs ss xs : List Int) (K : List (Nat × Int)) (ao : Option Addr) (cap i base : Nat) (w : World) (hn : xs.length ≤ 1048576) (hi : i ≤ xs.length) (hK : ∀ x ∈ K, KeyOk x) (hKL : K.length = ss.length) (hsl : ss.length ≤ 1048576) (hv : CV w v cs ss) (hall : AllAt w base va K) (hx : View .i64 w ao xs.length xs) :
    Calls Try.prog 78 #[v, va, .slice ao xs.length cap, .int .i64 i] w fun e w' => ∃ r0 r1 : Int, e = .returned (.tuple #[.int .i64 r0, .int .i64 r1]) ∧ SymIs K ss xs i r0 r1 ∧ Below w.heap.size w w' := by
  obtain ⟨a0, c0, a1, c1, rfl, u0, u1⟩ := hv
  obtain ⟨vs, hvl, howns, hels⟩ := hall
  obtain ⟨oo, oc, rfl⟩ := howns.shape
  have HB := hid ((Below.refl w.heap.size w).alloc (Nat.le_refl _) (.cells #[.slice a0 cs.length c0, .slice a1 ss.length c1] 32))
  have HT := hid (Two.new w (.slice a0 cs.length c0) (.slice a1 ss.length c1) 32)
  have HU1 := hid u1
  have HX := hid hx
  have HOS := hid howns
  have HEL := hid hels
  have HK := hid hK
  have HKL := hid hKL
  have hvS : vs.length = ss.length := by rw [hvl, hKL]
  rw [hvS] at HOS ⊢
  clear u0 u1 howns hels hvl hx hK hKL hvS
  go_enter Try.func78, Try.ntmps78
  go_wp2
  generalize w.alloc (.cells #[.slice a0 cs.length c0, .slice a1 ss.length c1] 32) = wa at *
  go_loopw [10] (fun k wr => ∃ t : Nat, t ≤ ss.length ∧ k = .int .i64 t ∧ Hid (∀ q, q < t → ¬ Mt xs i (kp K q)) ∧ Hid (Below wa.heap.size wa wr)) (fun k _ => ss.length - (intOf k).toNat)
  case atStart => exact ⟨0, by omega, rfl, fun q hq => by omega, Below.refl _ _⟩
  case round =>
    obtain ⟨t, ht, rfl, hno, hbr⟩ := hrel
    have BR := hid (HB.out.trans (hbr.out.mono HB.out.size))
    by_cases hlt : t < ss.length
    · have hkK : t < K.length := by rw [HKL.out]; exact hlt
      obtain ⟨y, hy1, hy2⟩ := HEL.out t _ (kp_some hkK)
      obtain ⟨g, rfl, hyc⟩ := HOS.out.cell t y hy1
      obtain ⟨yo, yc, rfl, hyv⟩ := hy2.view
      have hkk := HK.out _ (kp_mem hkK)
      have hyl : (bitsK (kp K t)).length = (kp K t).1 := bl_length _ _
      obtain ⟨b, off, rfl, hc⟩ := HU1.out.2 t hlt
      have hcr : wr.cell? ⟨b, off + t, none⟩ = some (.int .i64 (ss.getD t 0)) := (BR.out.cell (p := ⟨b, off + t, none⟩) (World.block_lt_of_cell? w _ hc)).trans hc
      have hyr : wr.cell? ⟨g, t, none⟩ = some (.slice yo (bitsK (kp K t)).length yc) := (BR.out.cell (p := ⟨g, t, none⟩) (World.block_lt_of_cell? w _ hyc)).trans hyc
      have HAT := hid (at_any ao yo cap yc xs (bitsK (kp K t)) i wr hn (by rw [hyl]; have := hkk.1; omega) hi (HX.out.below (Nat.le_refl _) BR.out) (hyv.below (Nat.le_refl _) BR.out))
      have HKEY := hid (at_key xs i (kp K t))
      have HNE := hid (fun (e : ¬ Mt xs i (kp K t)) q (hq : q < t + 1) => (show ¬ Mt xs i (kp K q) by
        by_cases eq : q = t
        · rw [eq]; exact e
        · exact hno.out q (by omega)))
      have HYES := hid (fun (e : Mt xs i (kp K t)) => (show SymIs K ss xs i (ss.getD t 0) ((i : Int) + (kp K t).1) from .inl ⟨t, hkK, e, hno.out, rfl, rfl⟩))
      have hlt' : (t : Int) < (ss.length : Int) := by omega
      have h16 : (kp K t).1 ≤ 16 := hkk.1.2
      rw [hyl] at HAT hyr
      generalize bitsK (kp K t) = Y at *
      generalize ss.getD t 0 = S at *
      generalize (kp K t).1 = Lk at *
      have T1 := hid (HT.out.below hbr.out HT.out.lt)
      clear hc hyc hy1 hy2 hyv hyl hkk HEL
      go_wp2_with fail
      refine HAT.out.mono ?_
      rintro e w2 ⟨bb, rfl, hbb, hb2⟩
      have B2 := hid (hbr.out.trans (hb2.mono hbr.out.size))
      have BW := hid (HB.out.trans (B2.out.mono HB.out.size))
      have T2 := hid (T1.out.below hb2 T1.out.lt)
      have hcr2 := (hb2.cell (p := ⟨b, off + t, none⟩) (World.block_lt_of_cell? wr _ hcr)).trans hcr
      have hyr2 := (hb2.cell (p := ⟨g, t, none⟩) (World.block_lt_of_cell? wr _ hyr)).trans hyr
      have HBB := hid hbb
      clear hb2 hbb hcr hyr
      cases bb with
      | true =>
        have HR := hid (HYES.out (HKEY.out.1 (HBB.out.1 rfl)))
        obtain ⟨q1, q2, q3, q4⟩ := T2.out.cells
        clear HYES HNE HKEY HBB HAT
        go_wp2
        go_quiet (fail)
        go_wp2
        go_ret2
        exact ⟨_, _, rfl, HR.out, belowN BW.out _⟩
      | false =>
        have HN := hid (HNE.out (fun h => Bool.noConfusion (HBB.out.2 (HKEY.out.2 h))))
        clear HYES HNE HKEY HBB HAT
        go_wp2
        go_roundw
        case rel => exact ⟨t + 1, by omega, by go_num, HN.out, B2.out⟩
        case measure => simp [intOf]; omega
    · obtain rfl : t = ss.length := by omega
      go_wp2
      go_ret2
      exact ⟨_, _, rfl, .inr ⟨fun q hq => hno.out q (by rw [← HKL.out]; exact hq), rfl, rfl⟩, BR.out⟩
end Go.Proofs.Ytcikmgdfelejpaa
