/- The iterator over what stands where records would: its contract. -/
import Derived.Test.YtphhgfgmlfdkiaaLh
import Derived.RangeFuncNested
import Derived.RangeFuncBound
import Derived.RangeFuncCalls
import Derived.RangeFuncLeaves
import Derived.Shelf.Abstract
import Derived.Shelf.RegionOpen
import Derived.WalkKit
import Derived.OwnWalkIn
import Derived.TacticsInMore
import Derived.LoopNIn
import Derived.LoopIn
namespace Go.Proofs.Ytphhgfgmlfdkiaa
open Go.RowKit Go.Shelf
set_option linter.unusedVariables false

attribute [local go_sem] Oper.semAt_some

/-- Where the k-th that is looked at begins. -/
def pos (E : List ByteArray) : Nat → Nat
  | 0 => 0
  | k + 1 => pos E k + cnt E (pos E k)
theorem cnt_pos (E : List ByteArray) (p : Nat) (h : p < E.length) : 1 ≤ cnt E p ∧ p + cnt E p ≤ E.length := by unfold cnt; omega
theorem pos_le (E : List ByteArray) : ∀ k, pos E k ≤ E.length
  | 0 => Nat.zero_le _
  | k + 1 => by
    have h := pos_le E k
    rw [pos]
    by_cases hl : pos E k < E.length
    · exact (cnt_pos E _ hl).2
    · have : cnt E (pos E k) = 0 := by unfold cnt; omega
      omega
theorem pos_ge (E : List ByteArray) : ∀ k, pos E k < E.length → k ≤ pos E k
  | 0, _ => Nat.zero_le _
  | k + 1, h => by
    rw [pos] at h ⊢
    have h1 := pos_le E k
    have hl : pos E k < E.length := by omega
    have := pos_ge E k hl
    have := cnt_pos E _ hl
    omega
/-- A place that is looked at: the number of the record, and the sector. -/
def Pl (E : List ByteArray) : Type := { x : Nat × Nat // 1 ≤ x.1 ∧ x.1 ≤ 1501 ∧ x.2 < E.length }
def encP (E : List ByteArray) (b off cap : Nat) (x : Pl E) : Array Value := #[.agg #[.int .i64 (x.1.1 : Int), .slice (some ⟨b, off + x.1.2, none⟩) (cnt E x.1.2) (cap - x.1.2), .int .i64 ((x.1.2 : Int) + (cnt E x.1.2 : Int))]]
def placesTo (E : List ByteArray) (k : Nat) (xs : List (Pl E)) : Prop := xs.map (fun x => x.1) = (List.range k).map fun j => (j + 1, pos E j)
theorem placesTo_snoc (E : List ByteArray) (k : Nat) (xs : List (Pl E)) (x : Pl E) (h : placesTo E k xs) (hx : x.1 = (k + 1, pos E k)) : placesTo E (k + 1) (xs ++ [x]) := by
  unfold placesTo at *
  rw [List.map_append, h, List.range_succ, List.map_append]
  simp [hx]
/-- What is read of memory stays. -/
def Kbb (b B : Nat) (W W' : World) : Prop := W'.heap[b]? = W.heap[b]? ∧ W'.heap[B]? = W.heap[B]?
theorem Kbb.cell {b B : Nat} {W W' : World} (h : Kbb b B W W') (i : Nat) : W'.cell? ⟨b, i, none⟩ = W.cell? ⟨b, i, none⟩ ∧ W'.cell? ⟨B, i, none⟩ = W.cell? ⟨B, i, none⟩ := by
  unfold World.cell?
  rw [h.1, h.2]
  exact ⟨rfl, rfl⟩

set_option maxRecDepth 100000 in
set_option maxHeartbeats 3200000 in
theorem places_in (n : Nat) (hn : 1 ≤ n) (l Bs b off cap : Nat) (E : List ByteArray) (hE : E.length ≤ 1500) (hs : ∀ j, j < E.length → (sAt E j).size ≤ 128) (hcap : E.length ≤ cap) (J Jx : List (Pl E) → World → Prop)
    (hY : ∀ pre x W, J pre W → pre.length < E.length → YieldAt Fence.wide (n - 1) Try.prog l (encP E b off cap x) W fun e W' =>
      (e = .returned (.bool true) ∧ J (pre ++ [x]) W' ∧ Kbb b Bs W W') ∨ (e = .returned (.bool false) ∧ Jx (pre ++ [x]) W'))
    (W : World) (hBs : W.cell? ⟨Bs, 0, none⟩ = some (.slice (some ⟨b, off, none⟩) E.length cap)) (hc : ∀ j, j < E.length → W.cell? ⟨b, off + j, none⟩ = some (.string (sAt E j))) (h0 : J [] W) (hJd : ∀ pre W k, J pre W → J pre (W.drewN k)) :
    CallsIn Fence.wide n Try.prog 78 #[.func (.yield l) #[] #[], .pointer (some ⟨Bs, 0, none⟩)] W fun e W' => (∃ v, e = .returned v) ∧
      ((∃ ys, (∃ k, placesTo E k ys ∧ E.length ≤ pos E k) ∧ J ys W') ∨ (∃ pre, (∃ k, placesTo E k pre ∧ 1 ≤ k ∧ pos E (k - 1) < E.length) ∧ Jx pre W')) := by
  refine callsIn_of_wp Try.func78 rfl trivial ?_ rfl
  simp only [Try.ntmps78, List.size_toArray, List.length_cons, List.length_nil, Nat.reduceAdd, Nat.reduceSub, Array.replicate_succ, Array.replicate_zero, List.push_toArray, List.append_toArray, List.nil_append, List.cons_append]
  gi_wp2
  gi_loopw [3, 4] (fun p qv wr => ∃ (k : Nat) (pre : List (Pl E)), p = .int .i64 (pos E k : Nat) ∧ qv = .int .i64 ((k : Int) + 1) ∧ Hid (placesTo E k pre) ∧ Hid (J pre wr) ∧ Hid (Kbb b Bs W wr) ∧ k ≤ 1500) (fun p _ _ => E.length - (intOf p).toNat)
  case atStart => exact ⟨0, [], rfl, rfl, rfl, h0, ⟨rfl, rfl⟩, by omega⟩
  case round =>
    obtain ⟨k, pre, rfl, rfl, hpl, hJs, hkb, hk⟩ := hrel
    have hBs' := (hkb.out.cell 0).2.trans hBs
    by_cases hlt : pos E k < E.length
    · have hge := pos_ge E k hlt
      have hplen : pre.length = k := by
        have := congrArg List.length hpl.out
        simpa using this
      have hcn := cnt_pos E _ hlt
      have hcx := (hkb.out.cell (off + pos E k)).1.trans (hc _ hlt)
      have hxs := hs _ hlt
      have hcd : (cnt E (pos E k) : Int) = min (max (told (sAt E (pos E k)) : Int) 1) ((E.length : Int) - (pos E k : Int)) := by unfold cnt; omega
      have htl := told_le (sAt E (pos E k))
      have HGW : Hid (∀ wz, Calls Try.prog 22 #[.string (sAt E (pos E k)), .int .i64 8] wz fun e w' => e = .returned (.int .u32 (told (sAt E (pos E k)) : Int)) ∧ ∃ n, w' = wz.drewN n) := hid (fun wz => by
        by_cases h12 : 8 + 4 ≤ (sAt E (pos E k)).size
        · have := impl_getWord_yes (sAt E (pos E k)) 8 wz (by omega) h12
          rw [told_yes _ h12] at this
          exact this
        · have := impl_getWord_no (sAt E (pos E k)) 8 wz (by omega) (by omega)
          rw [told_no _ h12]
          exact this)
      have hJd' := hJd pre wr
      have hY' := fun wq (h : J pre wq) => hY pre ⟨(k + 1, pos E k), by omega, by omega, hlt⟩ wq h (by omega)
      have HPN := hid (fun (x : Pl E) (hx : x.1 = (k + 1, pos E k)) => placesTo_snoc E k pre x hpl.out hx)
      generalize hP : pos E k = p at *
      generalize sAt E p = F at *
      generalize told F = m at *
      generalize hC : cnt E p = c at *
      have hps : pos E (k + 1) = p + c := by rw [pos, hP, hC]
      have hpi : ((pos E (k + 1) : Nat) : Int) = (p : Int) + (c : Int) := by omega
      replace hps := hid hps
      have hlt' : (p : Int) < (E.length : Int) := by omega
      have hcd' : min (max (m : Int) 1) ((E.length : Int) - (p : Int)) = (c : Int) := hcd.symm
      have hz : ((p : Int) + (c : Int)).toNat - p = c := by omega
      clear hcd
      gi_wp2_with (refine ⟨trivial, ?_⟩; gi_at_call 22; refine (callsIn_wide.2 (HGW.out _)).mono ?_; rintro e w' ⟨rfl, nd, rfl⟩)
      obtain ⟨fn, tmps, assign, body, hy, hR⟩ := hY' _ (hJd' nd hJs.out)
      dsimp only [encP] at hy
      have hk1 : ((k + 1 : Nat) : Int) = (k : Int) + 1 := by omega
      rw [hk1, hC] at hy
      clear hk1
      rw [hy]
      refine And.intro (fun _ => hn) (hR.mono ?_)
      rintro e W3 (⟨rfl, hJ3, hk3⟩ | ⟨rfl, hJx3⟩)
      · have HK3 := hid (show Kbb b Bs W W3 from ⟨hk3.1.trans hkb.out.1, hk3.2.trans hkb.out.2⟩)
        have HJ3 := hid hJ3
        have HP3 := hid (HPN.out ⟨(k + 1, p), by omega, by omega, hlt⟩ rfl)
        clear hJ3 hk3 hY' hJd' hy
        gi_wp2
        go_roundw
        case rel => exact ⟨k + 1, _, by rw [hpi], by simp, HP3.out, HJ3.out, HK3.out, by omega⟩
        case measure => simp [intOf]; omega
      · have HP3 := hid (HPN.out ⟨(k + 1, p), by omega, by omega, hlt⟩ rfl)
        have HJ3 := hid hJx3
        gi_wp2
        refine bodyPost_ret (results_none rfl _ _ _) rfl ?_
        exact ⟨⟨_, rfl⟩, .inr ⟨_, ⟨k + 1, HP3.out, by omega, by simp only [Nat.add_sub_cancel]; rw [hP]; exact hlt⟩, HJ3.out⟩⟩
    · gi_wp2
      go_end0
      exact ⟨⟨_, rfl⟩, .inl ⟨pre, ⟨k, hpl.out, by omega⟩, hJs.out⟩⟩
end Go.Proofs.Ytphhgfgmlfdkiaa
