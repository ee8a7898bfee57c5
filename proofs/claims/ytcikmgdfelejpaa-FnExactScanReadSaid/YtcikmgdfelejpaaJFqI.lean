/- How often symbols stand: the contracts of freqsOf and of ScanFreqs of the program. -/
import Derived.Test.YtcikmgdfelejpaaJFq
import Derived.Test.YtcikmgdfelejpaaJGg
import Derived.Deep.CutRange
import Derived.Test.YtcikmgdfelejpaaJScR
namespace Go.Proofs.Ytcikmgdfelejpaa
open Go.RowKit
set_option linter.unusedVariables false

/-- Two own slices of 256 numbers, apart from each other. -/
def FrA (w : World) (base g1 g2 : Nat) (X Y : List Int) : Prop :=
  g1 ≠ g2 ∧ Own w base 3 .i64 (.slice (some ⟨g1, 0, none⟩) 256 256) X ∧ Own w base 3 .i64 (.slice (some ⟨g2, 0, none⟩) 256 256) Y

def ZA : Array Value := Array.replicate 256 (.int .i64 0)
theorem run_mk (q : World) : (Instr.makeSlice 22 (.int .i64 256) (.int .i64 256)).run Try.prog q = .ok (.slice (some ⟨q.heap.size, 0, none⟩) 256 256) (q.alloc (.cells ZA 3)) := by kernel_rfl
theorem za_size : ZA.size = 256 := by simp only [ZA, Array.size_replicate]
theorem za_list : ZA.toList = (List.replicate 256 (0 : Int)).map (Value.int .i64) := by rw [List.map_replicate]; simp only [ZA, Array.toList_replicate]
theorem own_za {q : World} {base g : Nat} (h : q.heap[g]? = some (.cells ZA 3 (0, 0))) (hb : base ≤ g) : Own q base 3 .i64 (.slice (some ⟨g, 0, none⟩) 256 256) (List.replicate 256 0) := by
  have hlt := (Array.getElem?_eq_some_iff.1 h).1
  have hn : (List.replicate 256 (0 : Int)).length = 256 := List.length_replicate
  refine ⟨by omega, ?_⟩
  rw [hn]
  refine ⟨by rw [List.length_map, hn], .inr ⟨g, 256, ZA, rfl, hb, h, Nat.le_refl _, by unfold maxLen; omega, by rw [za_size], ?_⟩⟩
  rw [za_list, List.take_of_length_le (by rw [List.length_map, hn]; omega)]
/-- What the first statements of freqsOf lay. -/
def FS (w : World) (s : Value) (wx : World) : Prop :=
  ∃ b g1 g2, s = .pointer (some ⟨b, 0, none⟩) ∧ Two wx b (.slice (some ⟨g1, 0, none⟩) 256 256) (.slice (some ⟨g2, 0, none⟩) 256 256) 99 ∧ FrA wx w.heap.size g1 g2 (List.replicate 256 0) (List.replicate 256 0) ∧ Two wx w.heap.size (.slice none 0 0) (.slice none 0 0) 99 ∧ Below w.heap.size w wx ∧ w.heap.size < b ∧ b ≠ g1 ∧ b ≠ g2 ∧ w.heap.size < g1 ∧ w.heap.size < g2
theorem fs_of {w W : World} {b g1 g2 : Nat} (hb : W.heap[b]? = some (.cells #[.slice (some ⟨g1, 0, none⟩) 256 256, .slice (some ⟨g2, 0, none⟩) 256 256] 99 (0, 0))) (h1 : W.heap[g1]? = some (.cells ZA 3 (0, 0))) (h2 : W.heap[g2]? = some (.cells ZA 3 (0, 0))) (hne : g1 ≠ g2) (l0 : w.heap.size < b) (l1 : w.heap.size < g1) (l2 : w.heap.size < g2)
    (hT : Two W w.heap.size (.slice none 0 0) (.slice none 0 0) 99) (hB : Below w.heap.size w W) : FS w (.pointer (some ⟨b, 0, none⟩)) W := by
  have e1 : b ≠ g1 := fun e => by
    subst e
    rw [hb] at h1
    cases h1
  have e2 : b ≠ g2 := fun e => by
    subst e
    rw [hb] at h2
    cases h2
  exact ⟨b, g1, g2, rfl, hb, ⟨hne, own_za h1 (by omega), own_za h2 (by omega)⟩, hT, hB, l0, e1, e2, l1, l2⟩
theorem al_new (q : World) (o : Obj) (n : Nat) (hn : n = q.heap.size) : (q.alloc o).heap[n]? = some o := by subst hn; exact heap_alloc_new q _
theorem al_old {q : World} {o ob : Obj} {g : Nat} (h : q.heap[g]? = some ob) : (q.alloc o).heap[g]? = some ob := (((Below.refl q.heap.size q).alloc (Nat.le_refl _) o).block g (Array.getElem?_eq_some_iff.1 h).1).trans h
theorem three {w wa : World} {o1 o2 o3 : Obj} (hB : Below w.heap.size w wa) (hT : Two wa w.heap.size (.slice none 0 0) (.slice none 0 0) 99) :
    (((wa.alloc o1).alloc o2).alloc o3).drew.heap[wa.heap.size]? = some o1 ∧ (((wa.alloc o1).alloc o2).alloc o3).drew.heap[wa.heap.size + 1]? = some o2 ∧ (((wa.alloc o1).alloc o2).alloc o3).drew.heap[wa.heap.size + 1 + 1]? = some o3 ∧ Two (((wa.alloc o1).alloc o2).alloc o3).drew w.heap.size (.slice none 0 0) (.slice none 0 0) 99 ∧ Below w.heap.size w (((wa.alloc o1).alloc o2).alloc o3).drew := by
  have b1 := hB.alloc hB.size o1
  have b2 := b1.alloc b1.size o2
  have b3 := b2.alloc b2.size o3
  exact ⟨al_old (al_old (al_new wa o1 _ rfl)), al_old (al_new _ o2 _ (by simp)), al_new _ o3 _ (by simp), ((hT.alloc o1).alloc o2).alloc o3, b3.drew⟩

set_option maxRecDepth 100000 in
set_option maxHeartbeats 1600000 in
theorem freqs_of (ao : Option Addr) (cap base0 : Nat) (P : List Pt) (w : World) (hl : P.length ≤ 1000000) (hsym : ∀ j, j < P.length → symP (nthP P j)) (hv : OwnP w base0 (.slice ao P.length cap) P) :
    Calls Try.prog 57 #[.slice ao P.length cap] w fun e w' => ∃ g1 g2, e = .returned (.agg #[.slice (some ⟨g1, 0, none⟩) 256 256, .slice (some ⟨g2, 0, none⟩) 256 256]) ∧ FrA w' w.heap.size g1 g2 (freqL 0 P) (freqL 1 P) ∧ Below w.heap.size w w' := by
  have HV := hid hv
  have HSY := hid hsym
  have HT := hid (Two.new w (.slice none 0 0) (.slice none 0 0) 99)
  have HB := hid ((Below.refl w.heap.size w).alloc (Nat.le_refl _) (.cells #[.slice none 0 0, .slice none 0 0] 99))
  clear hv hsym
  go_enter Try.func57, Try.ntmps57
  go_wp2_with fail
  generalize w.alloc (.cells #[.slice none 0 0, .slice none 0 0] 99) = wa at *
  have rm := run_mk
  have hwa : w.heap.size < wa.heap.size := HT.out.lt
  go_cut [3] from 8 to 35 (fun s wx => FS w s wx)
  case first =>
    go_region
    all_goals
      go_wp2_with fail
      go_meet
      first
        | exact fs_of (three HB.out HT.out).1 (three HB.out HT.out).2.1 (three HB.out HT.out).2.2.1 (by omega) (by omega) (by omega) (by omega) (three HB.out HT.out).2.2.2.1 (three HB.out HT.out).2.2.2.2
        | exact fs_of (three HB.out HT.out).1 (three HB.out HT.out).2.2.1 (three HB.out HT.out).2.1 (by omega) (by omega) (by omega) (by omega) (three HB.out HT.out).2.2.2.1 (three HB.out HT.out).2.2.2.2
        | exact fs_of (three HB.out HT.out).2.1 (three HB.out HT.out).1 (three HB.out HT.out).2.2.1 (by omega) (by omega) (by omega) (by omega) (three HB.out HT.out).2.2.2.1 (three HB.out HT.out).2.2.2.2
        | exact fs_of (three HB.out HT.out).2.1 (three HB.out HT.out).2.2.1 (three HB.out HT.out).1 (by omega) (by omega) (by omega) (by omega) (three HB.out HT.out).2.2.2.1 (three HB.out HT.out).2.2.2.2
        | exact fs_of (three HB.out HT.out).2.2.1 (three HB.out HT.out).1 (three HB.out HT.out).2.1 (by omega) (by omega) (by omega) (by omega) (three HB.out HT.out).2.2.2.1 (three HB.out HT.out).2.2.2.2
        | exact fs_of (three HB.out HT.out).2.2.1 (three HB.out HT.out).2.1 (three HB.out HT.out).1 (by omega) (by omega) (by omega) (by omega) (three HB.out HT.out).2.2.2.1 (three HB.out HT.out).2.2.2.2
  case rest =>
    obtain ⟨b, g1, g2, rfl, hT2, hfr, hTr, hbw, l0, e1, e2, l1, l2⟩ := hcut
    generalize hwc : wc = wx at *
    clear hwc
    have HT2 := hid hT2
    have HFR := hid hfr
    have HTR := hid hTr
    have HBX := hid hbw
    have HNIL0 := hid (freqL_nil 0)
    have HNIL1 := hid (freqL_nil 1)
    have ts := ta_ss
    have tb := ta_bb
    have tn := ta_bs
    clear hT2 hfr hTr hbw rm HT HB hwa
    go_wp2_with fail
    go_loopw [13] (fun i wr => ∃ k : Nat, k ≤ P.length ∧ i = .int .i64 k ∧ Hid (FrA wr w.heap.size g1 g2 (freqL 0 (P.take k)) (freqL 1 (P.take k))) ∧ Hid (Two wr b (.slice (some ⟨g1, 0, none⟩) 256 256) (.slice (some ⟨g2, 0, none⟩) 256 256) 99) ∧ Hid (Two wr w.heap.size (.slice none 0 0) (.slice none 0 0) 99) ∧ Hid (Below w.heap.size w wr)) (fun i _ => P.length - (intOf i).toNat)
    case atStart => exact ⟨0, by omega, rfl, by rw [List.take_zero, HNIL0.out, HNIL1.out]; exact HFR.out, HT2.out, HTR.out, HBX.out⟩
    case round =>
      obtain ⟨k, hk, rfl, hfr, hT2, hTr, hb⟩ := hrel
      clear HFR HT2 HTR HBX HNIL0 HNIL1
      obtain ⟨q1, q2, q3, q4⟩ := hT2.out.cells
      by_cases hlt : k < P.length
      · have hlt' : (k : Int) < (P.length : Int) := by omega
        obtain ⟨g, y, rfl, hcy, hpt⟩ := (HV.out.below hb.out).cell k hlt
        have hsy := HSY.out k hlt
        have HNX := hid (take_succP P k hlt)
        have HLT := hid (show (P.take k).length ≤ 1000000 by rw [List.length_take]; omega)
        revert hpt hsy HNX
        cases nthP P k with
        | inl q =>
          obtain ⟨t, x⟩ := q
          intro hpt hsy HNX
          obtain rfl : y = .iface 110 (.agg #[.int .i64 t, .int .i64 x]) := hpt
          obtain ⟨ht, hx0, hx1⟩ := hsy
          obtain ⟨j, rfl⟩ := Int.eq_ofNat_of_zero_le hx0
          have hj : j < 256 := by omega
          have hj' : (j : Int) < 256 := by omega
          obtain ⟨p1, p2, p3, p4⟩ := (Two.new wr (.int .i64 t) (.int .i64 (j : Int)) 110).cells
          have HA := hid ((Below.refl wr.heap.size wr).alloc (Nat.le_refl _) (.cells #[.int .i64 t, .int .i64 (j : Int)] 110))
          have M1 := hid (hfr.out.2.1.below HA.out)
          have M2 := hid (hfr.out.2.2.below HA.out)
          have MT := hid (hT2.out.below HA.out hT2.out.lt)
          have MR := hid (hTr.out.below HA.out hTr.out.lt)
          have MB := hid (hb.out.trans (HA.out.mono hb.out.size))
          have hg1l : g1 < wr.heap.size := hfr.out.2.1.ge.2
          have hg2l : g2 < wr.heap.size := hfr.out.2.2.ge.2
          have hbl : b < wr.heap.size := hT2.out.lt
          have hgne := hfr.out.1
          have hcb0 := cnt_bd 0 j (P.take k)
          have hcb1 := cnt_bd 1 j (P.take k)
          have hltk := HLT.out
          have d1 : (wr.alloc (.cells #[.int .i64 t, .int .i64 (j : Int)] 110)).cell? ⟨g1, j, none⟩ = some (.int .i64 (cnt 0 j (P.take k))) := by
            have h1 := M1.out.cell rfl j (by rw [freqL_len]; exact hj)
            rw [Addr.add_lit, Nat.zero_add, freqL_get 0 _ j hj] at h1
            exact h1
          have d2 : (wr.alloc (.cells #[.int .i64 t, .int .i64 (j : Int)] 110)).cell? ⟨g2, j, none⟩ = some (.int .i64 (cnt 1 j (P.take k))) := by
            have h1 := M2.out.cell rfl j (by rw [freqL_len]; exact hj)
            rw [Addr.add_lit, Nat.zero_add, freqL_get 1 _ j hj] at h1
            exact h1
          have z1 : (wr.alloc (.cells #[.int .i64 t, .int .i64 (j : Int)] 110)).frozen? ⟨g1, j, none⟩ = false := M1.out.2.frozenAt j
          have z2 : (wr.alloc (.cells #[.int .i64 t, .int .i64 (j : Int)] 110)).frozen? ⟨g2, j, none⟩ = false := M2.out.2.frozenAt j
          obtain ⟨s1, s2, s3, s4⟩ := MT.out.cells
          have hbw1 : wr.heap.size ≠ g1 := by omega
          have hbw2 : wr.heap.size ≠ g2 := by omega
          rcases ht with rfl | rfl
          · have E0 := hid (show freqL 0 (P.take (k + 1)) = (freqL 0 (P.take k)).set j (cnt 0 j (P.take k) + 1) by rw [HNX.out]; exact freqL_bump 0 _ j hj)
            have E1 := hid (show freqL 1 (P.take (k + 1)) = freqL 1 (P.take k) by rw [HNX.out]; exact freqL_other 1 0 j _ (by decide))
            generalize cnt 0 j (P.take k) = N0 at *
            generalize cnt 1 j (P.take k) = N1 at *
            have hw0 : IntKind.i64.wrap (N0 + 1) = N0 + 1 := by rw [IntKind.wrap_i64]; omega
            have hw1 : IntKind.i64.wrap (N1 + 1) = N1 + 1 := by rw [IntKind.wrap_i64]; omega
            go_wp2_with fail
            generalize wr.alloc (.cells #[.int .i64 0, .int .i64 (j : Int)] 110) = wy at *
            go_region
            all_goals
              have K1 := hid (M1.out.store j (N0 + 1))
              have K2 := hid (M2.out.storeOther (i := j) (g := g1) (fun a n c h => by cases h; show g2 ≠ g1; omega) (.int .i64 (N0 + 1)))
              have hbs : Below w.heap.size wy (wy.setCell ⟨g1, j, none⟩ (.int .i64 (N0 + 1))) := (Below.refl _ _).setCell (p := ⟨g1, j, none⟩) (by show w.heap.size ≤ g1; omega) _
              have K3 := hid (MB.out.trans hbs)
              have K4 := hid (MT.out.other (c := g1) (i := j) (by omega) (.int .i64 (N0 + 1)))
              have K5 := hid (MR.out.other (c := g1) (i := j) (by omega) (.int .i64 (N0 + 1)))
              go_wp2_with fail
              go_roundw
              case rel => exact ⟨k + 1, by omega, by go_num, by rw [E0.out, E1.out]; exact ⟨hgne, K1.out, K2.out⟩, K4.out, K5.out, K3.out.drew⟩
              case measure => simp [intOf]; omega
          · have E0 := hid (show freqL 1 (P.take (k + 1)) = (freqL 1 (P.take k)).set j (cnt 1 j (P.take k) + 1) by rw [HNX.out]; exact freqL_bump 1 _ j hj)
            have E1 := hid (show freqL 0 (P.take (k + 1)) = freqL 0 (P.take k) by rw [HNX.out]; exact freqL_other 0 1 j _ (by decide))
            generalize cnt 0 j (P.take k) = N0 at *
            generalize cnt 1 j (P.take k) = N1 at *
            have hw0 : IntKind.i64.wrap (N0 + 1) = N0 + 1 := by rw [IntKind.wrap_i64]; omega
            have hw1 : IntKind.i64.wrap (N1 + 1) = N1 + 1 := by rw [IntKind.wrap_i64]; omega
            go_wp2_with fail
            generalize wr.alloc (.cells #[.int .i64 1, .int .i64 (j : Int)] 110) = wy at *
            go_region
            all_goals
              have K1 := hid (M2.out.store j (N1 + 1))
              have K2 := hid (M1.out.storeOther (i := j) (g := g2) (fun a n c h => by cases h; show g1 ≠ g2; omega) (.int .i64 (N1 + 1)))
              have hbs : Below w.heap.size wy (wy.setCell ⟨g2, j, none⟩ (.int .i64 (N1 + 1))) := (Below.refl _ _).setCell (p := ⟨g2, j, none⟩) (by show w.heap.size ≤ g2; omega) _
              have K3 := hid (MB.out.trans hbs)
              have K4 := hid (MT.out.other (c := g2) (i := j) (by omega) (.int .i64 (N1 + 1)))
              have K5 := hid (MR.out.other (c := g2) (i := j) (by omega) (.int .i64 (N1 + 1)))
              go_wp2_with fail
              go_roundw
              case rel => exact ⟨k + 1, by omega, by go_num, by rw [E0.out, E1.out]; exact ⟨hgne, K2.out, K1.out⟩, K4.out, K5.out, K3.out.drew⟩
              case measure => simp [intOf]; omega
        | inr xs =>
          intro hpt hsy HNX
          obtain ⟨y', rfl, hy⟩ := hpt
          obtain ⟨yo, yc, rfl⟩ := hy.shape
          have HA := hid ((Below.refl wr.heap.size wr).alloc (Nat.le_refl _) (.cells #[.slice yo xs.length yc] 112))
          have N1 := hid (show FrA (wr.alloc (.cells #[.slice yo xs.length yc] 112)) w.heap.size g1 g2 (freqL 0 (P.take (k + 1))) (freqL 1 (P.take (k + 1))) by
            rw [HNX.out, freqL_b, freqL_b]
            exact ⟨hfr.out.1, hfr.out.2.1.below HA.out, hfr.out.2.2.below HA.out⟩)
          have N2 := hid (hT2.out.below HA.out hT2.out.lt)
          have N3 := hid (hTr.out.below HA.out hTr.out.lt)
          have N4 := hid (hb.out.trans (HA.out.mono hb.out.size))
          clear hy
          go_wp2_with fail
          go_roundw
          case rel => exact ⟨k + 1, by omega, by go_num, N1.out, N2.out, N3.out, N4.out⟩
          case measure => simp [intOf]; omega
      · obtain rfl : k = P.length := by omega
        have HF := hid (show FrA wr w.heap.size g1 g2 (freqL 0 P) (freqL 1 P) by have := hfr.out; rw [List.take_length] at this; exact this)
        obtain ⟨r1, r2, r3, r4⟩ := hTr.out.cells
        have hgg : w.heap.size < g1 ∧ w.heap.size < g2 := ⟨l1, l2⟩
        go_wp2_with fail
        refine bodyPost_ret (v := .agg #[.slice (some ⟨g1, 0, none⟩) 256 256, .slice (some ⟨g2, 0, none⟩) 256 256]) (by simp [results, Try.results57, go_sem, r1, r2]) rfl ⟨g1, g2, rfl, ⟨HF.out.1, ?_, ?_⟩, ?_⟩
        · exact (HF.out.2.1.storeOther (fun a n c h => by cases h; show g1 ≠ w.heap.size; omega) _).storeOther (fun a n c h => by cases h; show g1 ≠ w.heap.size; omega) _
        · exact (HF.out.2.2.storeOther (fun a n c h => by cases h; show g2 ≠ w.heap.size; omega) _).storeOther (fun a n c h => by cases h; show g2 ≠ w.heap.size; omega) _
        · exact (hb.out.setCell (p := ⟨w.heap.size, 0, none⟩) (Nat.le_refl _) _).setCell (p := ⟨w.heap.size, 1, none⟩) (Nat.le_refl _) _

/-- What ScanFreqs answers for a table. -/
def freqR (t : Int) (L : List (Int × List Int)) : List Int := if scanOk L then freqL t (ptsTo L L.length) else []
def freqB (L : List (Int × List Int)) : Bool := if scanOk L then true else false
theorem freqR_yes {t : Int} {L : List (Int × List Int)} (h : scanOk L) : freqR t L = freqL t (ptsTo L L.length) := by unfold freqR; rw [if_pos h]
theorem freqR_no {t : Int} {L : List (Int × List Int)} (h : ¬ scanOk L) : freqR t L = [] := by unfold freqR; rw [if_neg h]
theorem freqB_yes {L : List (Int × List Int)} (h : scanOk L) : freqB L = true := by unfold freqB; rw [if_pos h]
theorem freqB_no {L : List (Int × List Int)} (h : ¬ scanOk L) : freqB L = false := by unfold freqB; rw [if_neg h]
theorem freqR_len (t : Int) (L : List (Int × List Int)) : (freqR t L).length ≤ 256 := by
  unfold freqR
  split
  · rw [freqL_len]; omega
  · simp
/-- Two own slices, apart from each other, and whether. -/
def FqP (X Y : List Int) (F : Bool) (w : World) (e : Ending) (w' : World) : Prop :=
  ∃ v1 v2, e = .returned (.tuple #[v1, v2, .bool F]) ∧ (Own w' w.heap.size 3 .i64 v1 X ∧ Own w' w.heap.size 3 .i64 v2 Y ∧ ∀ g, v1.ownBlock = some g → v2.ownBlock ≠ some g) ∧ Below w.heap.size w w'

set_option maxRecDepth 100000 in
set_option maxHeartbeats 800000 in
theorem impl_freqs (ao : Option Addr) (cap : Nat) (L : List (Int × List Int)) (w : World) (hn : L.length ≤ 1048576) (hs : ∀ j, j < L.length → (nth L j).2.length ≤ 1048576) (hv : BRow w ao L) :
    Calls Try.prog 27 #[.slice ao L.length cap] w (FqP (freqR 0 L) (freqR 1 L) (freqB L) w) := by
  by_cases hk : scanOk L
  · have HPA := hid (parts_yes ao cap L w hk.1 hk.2 hv)
    have HSY := hid (fun j hj => ptsTo_sym L hk.2 L.length (Nat.le_refl _) _ (nthP_mem (ptsTo L L.length) j hj))
    have hpl := ptsTo_len L hk.2 L.length (Nat.le_refl _)
    have hl := hk.1
    rw [freqR_yes hk, freqR_yes hk, freqB_yes hk]
    clear hk hv hs
    generalize ptsTo L L.length = P at *
    have hP : P.length ≤ 1000000 := by omega
    go_enter Try.func27, Try.ntmps27
    go_wp2_with fail
    refine HPA.out.mono ?_
    rintro e w1 ⟨v1, rfl, ho1, hb1⟩
    obtain ⟨po, pc, rfl⟩ := ho1.shape
    have HF := hid (freqs_of po pc w.heap.size P w1 hP HSY.out ho1)
    have B1 := hid hb1
    clear ho1 hb1 HPA
    go_wp2_with fail
    refine HF.out.mono ?_
    rintro e w2 ⟨g1, g2, rfl, ⟨hne, o1, o2⟩, hb2⟩
    have HA := hid ((Below.refl w2.heap.size w2).alloc (Nat.le_refl _) (.cells #[.slice (some ⟨g1, 0, none⟩) 256 256, .slice (some ⟨g2, 0, none⟩) 256 256] 99))
    have HT := hid (Two.new w2 (.slice (some ⟨g1, 0, none⟩) 256 256) (.slice (some ⟨g2, 0, none⟩) 256 256) 99)
    have B2 := hid (B1.out.trans (hb2.mono B1.out.size))
    have B3 := hid (B2.out.trans (HA.out.mono B2.out.size))
    have O1 := hid ((o1.below HA.out).mono B1.out.size)
    have O2 := hid ((o2.below HA.out).mono B1.out.size)
    clear o1 o2 hb2
    go_wp2_with fail
    generalize w2.alloc (.cells #[.slice (some ⟨g1, 0, none⟩) 256 256, .slice (some ⟨g2, 0, none⟩) 256 256] 99) = w3 at *
    obtain ⟨q1, q2, q3, q4⟩ := HT.out.cells
    go_quiet (fail)
    go_wp2_with fail
    refine bodyPost_ret (v := .tuple #[.slice (some ⟨g1, 0, none⟩) 256 256, .slice (some ⟨g2, 0, none⟩) 256 256, .bool true]) (by simp [results, Try.results27, go_sem]) rfl ⟨_, _, rfl, ⟨O1.out, O2.out, fun g h h' => ?_⟩, ?_⟩
    · simp [Value.ownBlock] at h h'
      omega
    · first | exact B3.out | exact B3.out.drew | exact belowN B3.out _
  · have HPA := hid (parts_no ao cap L w hn hs hv hk)
    rw [freqR_no hk, freqR_no hk, freqB_no hk]
    clear hk hv hs
    go_enter Try.func27, Try.ntmps27
    go_wp2_with fail
    refine HPA.out.mono ?_
    rintro e w1 ⟨rfl, hb1⟩
    have B1 := hid hb1
    have hs1 : w.heap.size ≤ w1.heap.size := hb1.size
    clear hb1 HPA
    go_wp2_with fail
    refine bodyPost_ret (v := .tuple #[.slice (some ⟨w1.heap.size, 0, none⟩) 0 0, .slice (some ⟨w1.heap.size + 1, 0, none⟩) 0 0, .bool false]) (by simp [results, Try.results27, go_sem]) rfl ⟨_, _, rfl, ⟨?_, ?_, fun g h h' => ?_⟩, ?_⟩
    · exact (Own.empty w1 3 .i64 w.heap.size hs1).alloc _
    · have := Own.empty (w1.alloc (.cells #[] 3)) 3 .i64 w.heap.size (Nat.le_trans hs1 (by simp))
      simpa using this
    · simp [Value.ownBlock] at h h'
      omega
    · exact (B1.out.alloc hs1 _).alloc (Nat.le_trans hs1 (by simp)) _
end Go.Proofs.Ytcikmgdfelejpaa
