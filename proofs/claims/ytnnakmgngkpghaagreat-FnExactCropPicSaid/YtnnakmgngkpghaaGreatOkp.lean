/- PicOk of both sides as one plain answer; what it says of the rows and of the tables; the best tables of both sides. -/
import Derived.Test.YtnnakmgngkpghaaGreatLpl
import Derived.Test.YtnnakmgngkpghaaGreatThi
namespace Go.Proofs.YtnnakmgngkpghaaGreat
open Go.RowKit Go.Maps
set_option linter.unusedVariables false

/-- Both ScanText come to one text, and whether they do is plain. -/
theorem both_text2 (T : Tb) (L : List (Int × List Int)) (h0 : T.cs.length ≤ 1048576) (h1 : T.ss.length ≤ 1048576) (h2 : T.ct.length ≤ 1048576) (h3 : T.st.length ≤ 1048576) (hn : L.length ≤ 1048576) (hs : ∀ j, j < L.length → (nth L j).2.length ≤ 1048576) : ∃ u : ByteArray,
    (∀ v ao cap w, TV w v T.cs T.ss T.ct T.st → BRow w ao L → Calls Tryz.prog 42 #[v, .slice ao L.length cap] w fun e w' => e = .returned (.tuple #[.string u, .bool (scanR T L).isSome]) ∧ Below w.heap.size w w') ∧
    (∀ v ao cap w, TV w v T.cs T.ss T.ct T.st → BRow w ao L → Calls Tryz.prog 64 #[v, .slice ao L.length cap] w fun e w' => e = .returned (.tuple #[.string u, .bool (scanR T L).isSome]) ∧ Below w.heap.size w w') := by
  have hlen := scanR_len T L
  cases hR : scanR T L with
  | none => exact ⟨⟨#[]⟩, fun v ao cap w ht hv => text_s_no v T ao cap L w h0 h1 h2 h3 hn hs ht hv hR, fun v ao cap w ht hv => text_i_no v T ao cap L w h0 h1 h2 h3 hn hs ht hv hR⟩
  | some r =>
    rw [hR] at hlen
    have hr : r.length ≤ 480000 := hlen
    obtain ⟨s, hsz, hp1, hp2⟩ := both_put r hr
    exact ⟨_, fun v ao cap w ht hv => text_s v T ao cap L w h0 h1 h2 h3 hn hs ht hv r s _ hR hr hp1 (fun w => spec_stuff s w hsz), fun v ao cap w ht hv => text_i v T ao cap L w h0 h1 h2 h3 hn hs ht hv r s _ hR hp2 (fun w => impl_stuff s w hsz)⟩

/-- What PicOk answers. -/
def okB (p : Pk) : Bool := p.ok && (scanR p.T p.L).isSome
theorem impl_okB (p : Pk) (hf : p.Fits) (q : World) (v : Value) (hv : PV q v p) : Calls Tryz.prog 24 #[v] q fun e w' => e = .returned (.bool (okB p)) ∧ Below q.heap.size q w' := by
  obtain ⟨u, h1, h2⟩ := both_text2 p.T p.L hf.h0 hf.h1 hf.h2 hf.h3 hf.hn hf.hs
  exact impl_picOk v p q hf hv u _ h2
theorem spec_okB (p : Pk) (hf : p.Fits) (q : World) (v : Value) (hv : PV q v p) : Calls Tryz.prog 19 #[v] q fun e w' => e = .returned (.bool (okB p)) ∧ Below q.heap.size q w' := by
  obtain ⟨u, h1, h2⟩ := both_text2 p.T p.L hf.h0 hf.h1 hf.h2 hf.h3 hf.hn hf.hs
  exact spec_picOk v p q hf hv u _ h1
theorem scanR_some {T : Tb} {L : List (Int × List Int)} (h : (scanR T L).isSome = true) : T.right ∧ scanOk L := by
  by_cases hc : T.right ∧ scanOk L
  · exact hc
  · rw [scanR_no hc] at h
    cases h
theorem okB_scan {p : Pk} (h : okB p = true) : p.T.right ∧ scanOk p.L := by
  unfold okB at h
  rw [Bool.and_eq_true] at h
  exact scanR_some h.2
theorem okB_rows {p : Pk} (h : okB p = true) (j : Nat) (hj : j < p.L.length) : (nth p.L j).2.length = 63 := by
  have h1 := oksTo_at p.L _ (okB_scan h).2.2 j hj
  unfold blkOk at h1
  rw [Bool.and_eq_true, Bool.and_eq_true, decide_eq_true_eq] at h1
  exact h1.2.1
theorem okB_freq {p : Pk} (h : okB p = true) : freqB p.L = true := freqB_yes (okB_scan h).2
theorem plI_L (p : Pk) : (plI p).L = p.L := by unfold plI; split <;> rfl
theorem plS_L (p : Pk) : (plS p).L = p.L := by unfold plS; split <;> rfl
theorem plI_fits (p : Pk) (h : p.Fits) : (plI p).Fits := by
  unfold plI
  split
  · exact ⟨by have := sbC_len 0 p.L; show (sbC 0 p.L).length ≤ _; omega, by have := sbS_len 0 p.L; show (sbS 0 p.L).length ≤ _; omega, by have := sbC_len 1 p.L; show (sbC 1 p.L).length ≤ _; omega, by have := sbS_len 1 p.L; show (sbS 1 p.L).length ≤ _; omega, h.hN, h.hn, h.hs⟩
  · exact h
theorem plS_fits (p : Pk) (h : p.Fits) : (plS p).Fits := by
  unfold plS
  split
  · exact ⟨by have := sbC_len 0 p.L; show (sbC 0 p.L).length ≤ _; omega, by have := sbS_len 0 p.L; show (sbS 0 p.L).length ≤ _; omega, by have := sbC_len 1 p.L; show (sbC 1 p.L).length ≤ _; omega, by have := sbS_len 1 p.L; show (sbS 1 p.L).length ≤ _; omega, h.hN, h.hn, h.hs⟩
  · exact h
theorem right_len {T : Tb} (h : T.right) : T.cs.length = 16 ∧ T.ct.length = 16 := ⟨((right_iff _ _).1 h.1).1.1, ((right_iff _ _).1 h.2).1.1⟩
theorem bC_no {fs : List Int} (h : bB fs = false) : bC fs = [] := by
  unfold bC
  rw [h]
  rfl
/-- A picture with the best tables is right on both sides or on none. -/
theorem okB_pl (p : Pk) (hT : p.T = ⟨[], [], [], []⟩) : okB (plS p) = okB (plI p) ∧ (okB (plI p) = true → plS p = plI p) := by
  have hno : okB p = false := by
    cases h : okB p with
    | false => rfl
    | true =>
      have := (right_len (okB_scan h).1).1
      rw [hT] at this
      cases this
  cases hf : freqB p.L with
  | false =>
    have h1 : plI p = p := by unfold plI; rw [hf]; rfl
    have h2 : plS p = p := by unfold plS sbB; rw [hf]; rfl
    rw [h1, h2]
    exact ⟨rfl, fun _ => rfl⟩
  | true =>
    cases hb : sbB p.L with
    | true =>
      have : plS p = plI p := by unfold plS plI; rw [hf, hb]
      rw [this]
      exact ⟨rfl, fun _ => rfl⟩
    | false =>
      have h2 : plS p = p := by unfold plS; rw [hb]; rfl
      have h1 : okB (plI p) = false := by
        cases h : okB (plI p) with
        | false => rfl
        | true =>
          have hr := right_len (okB_scan h).1
          unfold plI at hr
          rw [if_pos hf] at hr
          have hr1 : (sbC 0 p.L).length = 16 := hr.1
          have hr2 : (sbC 1 p.L).length = 16 := hr.2
          unfold sbC at hr1 hr2
          rw [if_pos hf] at hr1 hr2
          unfold sbB at hb
          rw [hf, Bool.true_and] at hb
          cases h0 : bB (fb 0 p.L) with
          | false => rw [bC_no h0] at hr1; cases hr1
          | true =>
            rw [h0, Bool.true_and] at hb
            rw [bC_no hb] at hr2
            cases hr2
      rw [h2, h1, hno]
      exact ⟨rfl, fun h => by cases h⟩
end Go.Proofs.YtnnakmgngkpghaaGreat
