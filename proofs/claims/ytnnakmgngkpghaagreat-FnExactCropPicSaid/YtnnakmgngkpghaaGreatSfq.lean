/- Plain facts on how often symbols stand in parts; a store into an own slice. -/
import Derived.Test.YtnnakmgngkpghaaGreatSca
import Derived.Deep.CutRange
namespace Go.Proofs.YtnnakmgngkpghaaGreat
open Go.RowKit
set_option linter.unusedVariables false

/-- How often the symbol x of the table t stands in the parts. -/
def cnt (t x : Int) : List Pt → Int
  | [] => 0
  | .inl (t', x') :: ps => (if t' = t ∧ x' = x then 1 else 0) + cnt t x ps
  | .inr _ :: ps => cnt t x ps
theorem cnt_append (t x : Int) (Q : List Pt) : ∀ P : List Pt, cnt t x (P ++ Q) = cnt t x P + cnt t x Q
  | [] => by simp [cnt]
  | .inl (t', x') :: ps => by
    show (if t' = t ∧ x' = x then 1 else 0) + cnt t x (ps ++ Q) = (if t' = t ∧ x' = x then 1 else 0) + cnt t x ps + cnt t x Q
    rw [cnt_append t x Q ps]
    omega
  | .inr _ :: ps => by
    show cnt t x (ps ++ Q) = cnt t x ps + cnt t x Q
    rw [cnt_append t x Q ps]
theorem cnt_bd (t x : Int) : ∀ P : List Pt, 0 ≤ cnt t x P ∧ cnt t x P ≤ P.length
  | [] => by simp [cnt]
  | .inl (t', x') :: ps => by
    have ih := cnt_bd t x ps
    show 0 ≤ (if t' = t ∧ x' = x then 1 else 0) + cnt t x ps ∧ (if t' = t ∧ x' = x then 1 else 0) + cnt t x ps ≤ ((Sum.inl (t', x') :: ps).length : Int)
    rw [List.length_cons]
    split <;> omega
  | .inr _ :: ps => by
    have ih := cnt_bd t x ps
    show 0 ≤ cnt t x ps ∧ cnt t x ps ≤ ((Sum.inr _ :: ps).length : Int)
    rw [List.length_cons]
    omega
/-- How often each symbol stands. -/
def freqL (t : Int) (P : List Pt) : List Int := (List.range 256).map fun (x : Nat) => cnt t x P
theorem freqL_len (t : Int) (P : List Pt) : (freqL t P).length = 256 := by simp [freqL]
theorem freqL_get (t : Int) (P : List Pt) (x : Nat) (h : x < 256) : (freqL t P).getD x 0 = cnt t x P := by simp [freqL, List.getD, h]
theorem freqL_nil (t : Int) : freqL t [] = List.replicate 256 0 := by
  rw [List.eq_replicate_iff]
  refine ⟨freqL_len t [], fun b hb => ?_⟩
  unfold freqL at hb
  rw [List.mem_map] at hb
  obtain ⟨x, _, rfl⟩ := hb
  rfl
theorem freqL_bump (t : Int) (P : List Pt) (x : Nat) (h : x < 256) : freqL t (P ++ [.inl (t, x)]) = (freqL t P).set x (cnt t x P + 1) := by
  unfold freqL
  refine List.ext_getElem (by simp) fun i h1 h2 => ?_
  simp only [List.getElem_map, List.getElem_range, List.getElem_set, cnt_append]
  show cnt t i P + ((if t = t ∧ (x : Int) = (i : Int) then 1 else 0) + 0) = _
  by_cases e : x = i
  · subst e
    simp
  · rw [if_neg (by omega), if_neg e]
    omega
theorem freqL_other (t t' x : Int) (P : List Pt) (h : t' ≠ t) : freqL t (P ++ [.inl (t', x)]) = freqL t P := by
  unfold freqL
  refine List.ext_getElem (by simp) fun i h1 h2 => ?_
  simp only [List.getElem_map, List.getElem_range, cnt_append]
  show cnt t i P + ((if t' = t ∧ x = (i : Int) then 1 else 0) + 0) = _
  rw [if_neg (fun e => h e.1)]
  omega
theorem freqL_b (t : Int) (xs : List Int) (P : List Pt) : freqL t (P ++ [.inr xs]) = freqL t P := by
  unfold freqL
  refine List.ext_getElem (by simp) fun i h1 h2 => ?_
  simp only [List.getElem_map, List.getElem_range, cnt_append]
  show cnt t i P + 0 = _
  omega
theorem Own.storeF {w : World} {base g n c : Nat} {xs : List Int} (h : Own w base 3 .i64 (.slice (some ⟨g, 0, none⟩) n c) xs) (i : Nat) (y : Int) : Own (w.setCell ⟨g, i, none⟩ (.int .i64 y)) base 3 .i64 (.slice (some ⟨g, 0, none⟩) n c) (xs.set i y) := by
  obtain ⟨_, _, e⟩ := h.shape
  cases e
  refine ⟨by simpa using h.1, ?_⟩
  have := (h.2.stored i (.int .i64 y)).1
  rw [← List.map_set] at this
  rw [List.length_set]
  exact this
theorem Own.storeOther {w : World} {base g i : Nat} {v : Value} {xs : List Int} (h : Own w base 3 .i64 v xs) (hne : ∀ a n c, v = .slice (some a) n c → a.block ≠ g) (u : Value) : Own (w.setCell ⟨g, i, none⟩ u) base 3 .i64 v xs := by
  refine ⟨by simpa using h.1, h.2.1, ?_⟩
  rcases h.2.2 with h0 | ⟨b, cap, cur, hv, hg, hh, r⟩
  · exact .inl h0
  · exact .inr ⟨b, cap, cur, hv, hg, (heap_setCell_other _ ⟨g, i, none⟩ b _ (fun e => hne _ _ _ hv e)).trans hh, r⟩
/-- Symbols that are in a table. -/
def symP : Pt → Prop
  | .inl (t, x) => (t = 0 ∨ t = 1) ∧ 0 ≤ x ∧ x ≤ 255
  | .inr _ => True
theorem ptsS_sym (S : List (Int × Int × List Int)) (h : ∀ j, j < S.length → (0 ≤ (nthS S j).1 ∧ (nthS S j).1 ≤ 15) ∧ (0 ≤ (nthS S j).2.1 ∧ (nthS S j).2.1 ≤ 10)) : ∀ k, k ≤ S.length → ∀ p ∈ ptsS S k, symP p
  | 0, _, p, hp => by simp [ptsS] at hp
  | k + 1, hk, p, hp => by
    rw [ptsS, List.mem_append] at hp
    rcases hp with hp | hp
    · exact ptsS_sym S h k (by omega) p hp
    · simp only [List.mem_cons, List.not_mem_nil, or_false] at hp
      rcases hp with rfl | rfl
      · have := h k (by omega)
        exact ⟨.inr rfl, by omega, by omega⟩
      · exact trivial
theorem sz_bd {x : Int} (h : -2046 ≤ x ∧ x ≤ 2046) : 0 ≤ sz x ∧ sz x ≤ 11 := by
  have h1 := sz_in (x := x) (by omega)
  have h2 := (sz_le x).2
  rw [h1]
  rw [h1] at h2
  omega
theorem ptsTo_sym (L : List (Int × List Int)) (h : oksTo L L.length = true) : ∀ k, k ≤ L.length → ∀ p ∈ ptsTo L k, symP p
  | 0, _, p, hp => by simp [ptsTo] at hp
  | k + 1, hk, p, hp => by
    rw [ptsTo, List.mem_append, List.mem_append] at hp
    rcases hp with (hp | hp) | hp
    · exact ptsTo_sym L h k (by omega) p hp
    · simp only [List.mem_cons, List.not_mem_nil, or_false] at hp
      rcases hp with rfl | rfl
      · have := sz_bd (df_bd L k h (by omega))
        exact ⟨.inl rfl, this.1, by omega⟩
      · exact trivial
    · have hf := stepsR_fine _ _ (oksTo_at L L.length h k (by omega))
      exact ptsS_sym _ (fun j hj => ⟨(hf.2 j hj).1, (hf.2 j hj).2.1⟩) _ (Nat.le_refl _) p hp
end Go.Proofs.YtnnakmgngkpghaaGreat

/- How often symbols stand: the contracts of freqsOf and of ScanFreqs of the program. -/
namespace Go.Proofs.YtnnakmgngkpghaaGreat
open Go.RowKit
set_option linter.unusedVariables false

/-- Two own slices of 256 numbers, apart from each other. -/
def FrA (w : World) (base g1 g2 : Nat) (X Y : List Int) : Prop :=
  g1 ≠ g2 ∧ Own w base 3 .i64 (.slice (some ⟨g1, 0, none⟩) 256 256) X ∧ Own w base 3 .i64 (.slice (some ⟨g2, 0, none⟩) 256 256) Y

def ZA : Array Value := Array.replicate 256 (.int .i64 0)
theorem run_mk (q : World) : (Instr.makeSlice 22 (.int .i64 256) (.int .i64 256)).run Tryz.prog q = .ok (.slice (some ⟨q.heap.size, 0, none⟩) 256 256) (q.alloc (.cells ZA 3)) := by kernel_rfl
theorem za_size : ZA.size = 256 := by simp only [ZA, Array.size_replicate]
theorem za_list : ZA.toList = (List.replicate 256 (0 : Int)).map (Value.int .i64) := by rw [List.map_replicate]; simp only [ZA, Array.toList_replicate]
theorem own_za {q : World} {base g : Nat} (h : q.heap[g]? = some (.cells ZA 3 (0, 0))) (hb : base ≤ g) : Own q base 3 .i64 (.slice (some ⟨g, 0, none⟩) 256 256) (List.replicate 256 0) := by
  have hlt := (Array.getElem?_eq_some_iff.1 h).1
  have hn : (List.replicate 256 (0 : Int)).length = 256 := List.length_replicate
  refine ⟨by omega, ?_⟩
  rw [hn]
  refine ⟨by rw [List.length_map, hn], .inr ⟨g, 256, ZA, rfl, hb, h, Nat.le_refl _, by unfold maxLen; omega, by rw [za_size], ?_⟩⟩
  rw [za_list, List.take_of_length_le (by rw [List.length_map, hn]; omega)]
/-- What the first statements of freqsOf lay. -/
def FS (w : World) (s : Value) (wx : World) : Prop :=
  ∃ b g1 g2, s = .pointer (some ⟨b, 0, none⟩) ∧ Two wx b (.slice (some ⟨g1, 0, none⟩) 256 256) (.slice (some ⟨g2, 0, none⟩) 256 256) 132 ∧ FrA wx w.heap.size g1 g2 (List.replicate 256 0) (List.replicate 256 0) ∧ Two wx w.heap.size (.slice none 0 0) (.slice none 0 0) 132 ∧ Below w.heap.size w wx ∧ w.heap.size < b ∧ b ≠ g1 ∧ b ≠ g2 ∧ w.heap.size < g1 ∧ w.heap.size < g2
theorem fs_of {w W : World} {b g1 g2 : Nat} (hb : W.heap[b]? = some (.cells #[.slice (some ⟨g1, 0, none⟩) 256 256, .slice (some ⟨g2, 0, none⟩) 256 256] 132 (0, 0))) (h1 : W.heap[g1]? = some (.cells ZA 3 (0, 0))) (h2 : W.heap[g2]? = some (.cells ZA 3 (0, 0))) (hne : g1 ≠ g2) (l0 : w.heap.size < b) (l1 : w.heap.size < g1) (l2 : w.heap.size < g2)
    (hT : Two W w.heap.size (.slice none 0 0) (.slice none 0 0) 132) (hB : Below w.heap.size w W) : FS w (.pointer (some ⟨b, 0, none⟩)) W := by
  have e1 : b ≠ g1 := fun e => by
    subst e
    rw [hb] at h1
    cases h1
  have e2 : b ≠ g2 := fun e => by
    subst e
    rw [hb] at h2
    cases h2
  exact ⟨b, g1, g2, rfl, hb, ⟨hne, own_za h1 (by omega), own_za h2 (by omega)⟩, hT, hB, l0, e1, e2, l1, l2⟩
theorem al_new (q : World) (o : Obj) (n : Nat) (hn : n = q.heap.size) : (q.alloc o).heap[n]? = some o := by subst hn; exact heap_alloc_new q _
theorem al_old {q : World} {o ob : Obj} {g : Nat} (h : q.heap[g]? = some ob) : (q.alloc o).heap[g]? = some ob := (((Below.refl q.heap.size q).alloc (Nat.le_refl _) o).block g (Array.getElem?_eq_some_iff.1 h).1).trans h
theorem three {w wa : World} {o1 o2 o3 : Obj} (hB : Below w.heap.size w wa) (hT : Two wa w.heap.size (.slice none 0 0) (.slice none 0 0) 132) :
    (((wa.alloc o1).alloc o2).alloc o3).drew.heap[wa.heap.size]? = some o1 ∧ (((wa.alloc o1).alloc o2).alloc o3).drew.heap[wa.heap.size + 1]? = some o2 ∧ (((wa.alloc o1).alloc o2).alloc o3).drew.heap[wa.heap.size + 1 + 1]? = some o3 ∧ Two (((wa.alloc o1).alloc o2).alloc o3).drew w.heap.size (.slice none 0 0) (.slice none 0 0) 132 ∧ Below w.heap.size w (((wa.alloc o1).alloc o2).alloc o3).drew := by
  have b1 := hB.alloc hB.size o1
  have b2 := b1.alloc b1.size o2
  have b3 := b2.alloc b2.size o3
  exact ⟨al_old (al_old (al_new wa o1 _ rfl)), al_old (al_new _ o2 _ (by simp)), al_new _ o3 _ (by simp), ((hT.alloc o1).alloc o2).alloc o3, b3.drew⟩

set_option maxRecDepth 100000 in
set_option maxHeartbeats 1600000 in
theorem freqs_of (ao : Option Addr) (cap base0 : Nat) (P : List Pt) (w : World) (hl : P.length ≤ 1000000) (hsym : ∀ j, j < P.length → symP (nthP P j)) (hv : OwnP w base0 (.slice ao P.length cap) P) :
    Calls Tryz.prog 101 #[.slice ao P.length cap] w fun e w' => ∃ g1 g2, e = .returned (.agg #[.slice (some ⟨g1, 0, none⟩) 256 256, .slice (some ⟨g2, 0, none⟩) 256 256]) ∧ FrA w' w.heap.size g1 g2 (freqL 0 P) (freqL 1 P) ∧ Below w.heap.size w w' := by
  have HV := hid hv
  have HSY := hid hsym
  have HT := hid (Two.new w (.slice none 0 0) (.slice none 0 0) 132)
  have HB := hid ((Below.refl w.heap.size w).alloc (Nat.le_refl _) (.cells #[.slice none 0 0, .slice none 0 0] 132))
  clear hv hsym
  go_enter Tryz.func101, Tryz.ntmps101
  go_wp2_with fail
  generalize w.alloc (.cells #[.slice none 0 0, .slice none 0 0] 132) = wa at *
  have rm := run_mk
  have hwa : w.heap.size < wa.heap.size := HT.out.lt
  go_cut [3] from 8 to 35 (fun s wx => FS w s wx)
  case first =>
    go_region
    all_goals
      go_wp2_with fail
      go_meet
      first
        | exact fs_of (three HB.out HT.out).1 (three HB.out HT.out).2.1 (three HB.out HT.out).2.2.1 (by omega) (by omega) (by omega) (by omega) (three HB.out HT.out).2.2.2.1 (three HB.out HT.out).2.2.2.2
        | exact fs_of (three HB.out HT.out).1 (three HB.out HT.out).2.2.1 (three HB.out HT.out).2.1 (by omega) (by omega) (by omega) (by omega) (three HB.out HT.out).2.2.2.1 (three HB.out HT.out).2.2.2.2
        | exact fs_of (three HB.out HT.out).2.1 (three HB.out HT.out).1 (three HB.out HT.out).2.2.1 (by omega) (by omega) (by omega) (by omega) (three HB.out HT.out).2.2.2.1 (three HB.out HT.out).2.2.2.2
        | exact fs_of (three HB.out HT.out).2.1 (three HB.out HT.out).2.2.1 (three HB.out HT.out).1 (by omega) (by omega) (by omega) (by omega) (three HB.out HT.out).2.2.2.1 (three HB.out HT.out).2.2.2.2
        | exact fs_of (three HB.out HT.out).2.2.1 (three HB.out HT.out).1 (three HB.out HT.out).2.1 (by omega) (by omega) (by omega) (by omega) (three HB.out HT.out).2.2.2.1 (three HB.out HT.out).2.2.2.2
        | exact fs_of (three HB.out HT.out).2.2.1 (three HB.out HT.out).2.1 (three HB.out HT.out).1 (by omega) (by omega) (by omega) (by omega) (three HB.out HT.out).2.2.2.1 (three HB.out HT.out).2.2.2.2
  case rest =>
    obtain ⟨b, g1, g2, rfl, hT2, hfr, hTr, hbw, l0, e1, e2, l1, l2⟩ := hcut
    generalize hwc : wc = wx at *
    clear hwc
    have HT2 := hid hT2
    have HFR := hid hfr
    have HTR := hid hTr
    have HBX := hid hbw
    have HNIL0 := hid (freqL_nil 0)
    have HNIL1 := hid (freqL_nil 1)
    have ts := ta_ss
    have tb := ta_bb
    have tn := ta_bs
    clear hT2 hfr hTr hbw rm HT HB hwa
    go_wp2_with fail
    go_loopw [13] (fun i wr => ∃ k : Nat, k ≤ P.length ∧ i = .int .i64 k ∧ Hid (FrA wr w.heap.size g1 g2 (freqL 0 (P.take k)) (freqL 1 (P.take k))) ∧ Hid (Two wr b (.slice (some ⟨g1, 0, none⟩) 256 256) (.slice (some ⟨g2, 0, none⟩) 256 256) 132) ∧ Hid (Two wr w.heap.size (.slice none 0 0) (.slice none 0 0) 132) ∧ Hid (Below w.heap.size w wr)) (fun i _ => P.length - (intOf i).toNat)
    case atStart => exact ⟨0, by omega, rfl, by rw [List.take_zero, HNIL0.out, HNIL1.out]; exact HFR.out, HT2.out, HTR.out, HBX.out⟩
    case round =>
      obtain ⟨k, hk, rfl, hfr, hT2, hTr, hb⟩ := hrel
      clear HFR HT2 HTR HBX HNIL0 HNIL1
      obtain ⟨q1, q2, q3, q4⟩ := hT2.out.cells
      by_cases hlt : k < P.length
      · have hlt' : (k : Int) < (P.length : Int) := by omega
        obtain ⟨g, y, rfl, hcy, hpt⟩ := (HV.out.below hb.out).cell k hlt
        have hsy := HSY.out k hlt
        have HNX := hid (take_succP P k hlt)
        have HLT := hid (show (P.take k).length ≤ 1000000 by rw [List.length_take]; omega)
        revert hpt hsy HNX
        cases nthP P k with
        | inl q =>
          obtain ⟨t, x⟩ := q
          intro hpt hsy HNX
          obtain rfl : y = .iface 148 (.agg #[.int .i64 t, .int .i64 x]) := hpt
          obtain ⟨ht, hx0, hx1⟩ := hsy
          obtain ⟨j, rfl⟩ := Int.eq_ofNat_of_zero_le hx0
          have hj : j < 256 := by omega
          have hj' : (j : Int) < 256 := by omega
          obtain ⟨p1, p2, p3, p4⟩ := (Two.new wr (.int .i64 t) (.int .i64 (j : Int)) 148).cells
          have HA := hid ((Below.refl wr.heap.size wr).alloc (Nat.le_refl _) (.cells #[.int .i64 t, .int .i64 (j : Int)] 148))
          have M1 := hid (hfr.out.2.1.below HA.out)
          have M2 := hid (hfr.out.2.2.below HA.out)
          have MT := hid (hT2.out.below HA.out hT2.out.lt)
          have MR := hid (hTr.out.below HA.out hTr.out.lt)
          have MB := hid (hb.out.trans (HA.out.mono hb.out.size))
          have hg1l : g1 < wr.heap.size := hfr.out.2.1.ge.2
          have hg2l : g2 < wr.heap.size := hfr.out.2.2.ge.2
          have hbl : b < wr.heap.size := hT2.out.lt
          have hgne := hfr.out.1
          have hcb0 := cnt_bd 0 j (P.take k)
          have hcb1 := cnt_bd 1 j (P.take k)
          have hltk := HLT.out
          have d1 : (wr.alloc (.cells #[.int .i64 t, .int .i64 (j : Int)] 148)).cell? ⟨g1, j, none⟩ = some (.int .i64 (cnt 0 j (P.take k))) := by
            have h1 := M1.out.cell rfl j (by rw [freqL_len]; exact hj)
            rw [Addr.add_lit, Nat.zero_add, freqL_get 0 _ j hj] at h1
            exact h1
          have d2 : (wr.alloc (.cells #[.int .i64 t, .int .i64 (j : Int)] 148)).cell? ⟨g2, j, none⟩ = some (.int .i64 (cnt 1 j (P.take k))) := by
            have h1 := M2.out.cell rfl j (by rw [freqL_len]; exact hj)
            rw [Addr.add_lit, Nat.zero_add, freqL_get 1 _ j hj] at h1
            exact h1
          have z1 : (wr.alloc (.cells #[.int .i64 t, .int .i64 (j : Int)] 148)).frozen? ⟨g1, j, none⟩ = false := M1.out.2.frozenAt j
          have z2 : (wr.alloc (.cells #[.int .i64 t, .int .i64 (j : Int)] 148)).frozen? ⟨g2, j, none⟩ = false := M2.out.2.frozenAt j
          obtain ⟨s1, s2, s3, s4⟩ := MT.out.cells
          have hbw1 : wr.heap.size ≠ g1 := by omega
          have hbw2 : wr.heap.size ≠ g2 := by omega
          rcases ht with rfl | rfl
          · have E0 := hid (show freqL 0 (P.take (k + 1)) = (freqL 0 (P.take k)).set j (cnt 0 j (P.take k) + 1) by rw [HNX.out]; exact freqL_bump 0 _ j hj)
            have E1 := hid (show freqL 1 (P.take (k + 1)) = freqL 1 (P.take k) by rw [HNX.out]; exact freqL_other 1 0 j _ (by decide))
            generalize cnt 0 j (P.take k) = N0 at *
            generalize cnt 1 j (P.take k) = N1 at *
            have hw0 : IntKind.i64.wrap (N0 + 1) = N0 + 1 := by rw [IntKind.wrap_i64]; omega
            have hw1 : IntKind.i64.wrap (N1 + 1) = N1 + 1 := by rw [IntKind.wrap_i64]; omega
            go_wp2_with fail
            generalize wr.alloc (.cells #[.int .i64 0, .int .i64 (j : Int)] 148) = wy at *
            go_region
            all_goals
              have K1 := hid (M1.out.store j (N0 + 1))
              have K2 := hid (M2.out.storeOther (i := j) (g := g1) (fun a n c h => by cases h; show g2 ≠ g1; omega) (.int .i64 (N0 + 1)))
              have hbs : Below w.heap.size wy (wy.setCell ⟨g1, j, none⟩ (.int .i64 (N0 + 1))) := (Below.refl _ _).setCell (p := ⟨g1, j, none⟩) (by show w.heap.size ≤ g1; omega) _
              have K3 := hid (MB.out.trans hbs)
              have K4 := hid (MT.out.other (c := g1) (i := j) (by omega) (.int .i64 (N0 + 1)))
              have K5 := hid (MR.out.other (c := g1) (i := j) (by omega) (.int .i64 (N0 + 1)))
              go_wp2_with fail
              go_roundw
              case rel => exact ⟨k + 1, by omega, by go_num, by rw [E0.out, E1.out]; exact ⟨hgne, K1.out, K2.out⟩, K4.out, K5.out, K3.out.drew⟩
              case measure => simp [intOf]; omega
          · have E0 := hid (show freqL 1 (P.take (k + 1)) = (freqL 1 (P.take k)).set j (cnt 1 j (P.take k) + 1) by rw [HNX.out]; exact freqL_bump 1 _ j hj)
            have E1 := hid (show freqL 0 (P.take (k + 1)) = freqL 0 (P.take k) by rw [HNX.out]; exact freqL_other 0 1 j _ (by decide))
            generalize cnt 0 j (P.take k) = N0 at *
            generalize cnt 1 j (P.take k) = N1 at *
            have hw0 : IntKind.i64.wrap (N0 + 1) = N0 + 1 := by rw [IntKind.wrap_i64]; omega
            have hw1 : IntKind.i64.wrap (N1 + 1) = N1 + 1 := by rw [IntKind.wrap_i64]; omega
            go_wp2_with fail
            generalize wr.alloc (.cells #[.int .i64 1, .int .i64 (j : Int)] 148) = wy at *
            go_region
            all_goals
              have K1 := hid (M2.out.store j (N1 + 1))
              have K2 := hid (M1.out.storeOther (i := j) (g := g2) (fun a n c h => by cases h; show g1 ≠ g2; omega) (.int .i64 (N1 + 1)))
              have hbs : Below w.heap.size wy (wy.setCell ⟨g2, j, none⟩ (.int .i64 (N1 + 1))) := (Below.refl _ _).setCell (p := ⟨g2, j, none⟩) (by show w.heap.size ≤ g2; omega) _
              have K3 := hid (MB.out.trans hbs)
              have K4 := hid (MT.out.other (c := g2) (i := j) (by omega) (.int .i64 (N1 + 1)))
              have K5 := hid (MR.out.other (c := g2) (i := j) (by omega) (.int .i64 (N1 + 1)))
              go_wp2_with fail
              go_roundw
              case rel => exact ⟨k + 1, by omega, by go_num, by rw [E0.out, E1.out]; exact ⟨hgne, K2.out, K1.out⟩, K4.out, K5.out, K3.out.drew⟩
              case measure => simp [intOf]; omega
        | inr xs =>
          intro hpt hsy HNX
          obtain ⟨y', rfl, hy⟩ := hpt
          obtain ⟨yo, yc, rfl⟩ := hy.shape
          have HA := hid ((Below.refl wr.heap.size wr).alloc (Nat.le_refl _) (.cells #[.slice yo xs.length yc] 150))
          have N1 := hid (show FrA (wr.alloc (.cells #[.slice yo xs.length yc] 150)) w.heap.size g1 g2 (freqL 0 (P.take (k + 1))) (freqL 1 (P.take (k + 1))) by
            rw [HNX.out, freqL_b, freqL_b]
            exact ⟨hfr.out.1, hfr.out.2.1.below HA.out, hfr.out.2.2.below HA.out⟩)
          have N2 := hid (hT2.out.below HA.out hT2.out.lt)
          have N3 := hid (hTr.out.below HA.out hTr.out.lt)
          have N4 := hid (hb.out.trans (HA.out.mono hb.out.size))
          clear hy
          go_wp2_with fail
          go_roundw
          case rel => exact ⟨k + 1, by omega, by go_num, N1.out, N2.out, N3.out, N4.out⟩
          case measure => simp [intOf]; omega
      · obtain rfl : k = P.length := by omega
        have HF := hid (show FrA wr w.heap.size g1 g2 (freqL 0 P) (freqL 1 P) by have := hfr.out; rw [List.take_length] at this; exact this)
        obtain ⟨r1, r2, r3, r4⟩ := hTr.out.cells
        have hgg : w.heap.size < g1 ∧ w.heap.size < g2 := ⟨l1, l2⟩
        go_wp2_with fail
        refine bodyPost_ret (v := .agg #[.slice (some ⟨g1, 0, none⟩) 256 256, .slice (some ⟨g2, 0, none⟩) 256 256]) (by simp [results, Tryz.results101, go_sem, r1, r2]) rfl ⟨g1, g2, rfl, ⟨HF.out.1, ?_, ?_⟩, ?_⟩
        · exact (HF.out.2.1.storeOther (fun a n c h => by cases h; show g1 ≠ w.heap.size; omega) _).storeOther (fun a n c h => by cases h; show g1 ≠ w.heap.size; omega) _
        · exact (HF.out.2.2.storeOther (fun a n c h => by cases h; show g2 ≠ w.heap.size; omega) _).storeOther (fun a n c h => by cases h; show g2 ≠ w.heap.size; omega) _
        · exact (hb.out.setCell (p := ⟨w.heap.size, 0, none⟩) (Nat.le_refl _) _).setCell (p := ⟨w.heap.size, 1, none⟩) (Nat.le_refl _) _

/-- What ScanFreqs answers for a table. -/
def freqR (t : Int) (L : List (Int × List Int)) : List Int := if scanOk L then freqL t (ptsTo L L.length) else []
def freqB (L : List (Int × List Int)) : Bool := if scanOk L then true else false
theorem freqR_yes {t : Int} {L : List (Int × List Int)} (h : scanOk L) : freqR t L = freqL t (ptsTo L L.length) := by unfold freqR; rw [if_pos h]
theorem freqR_no {t : Int} {L : List (Int × List Int)} (h : ¬ scanOk L) : freqR t L = [] := by unfold freqR; rw [if_neg h]
theorem freqB_yes {L : List (Int × List Int)} (h : scanOk L) : freqB L = true := by unfold freqB; rw [if_pos h]
theorem freqB_no {L : List (Int × List Int)} (h : ¬ scanOk L) : freqB L = false := by unfold freqB; rw [if_neg h]
theorem freqR_len (t : Int) (L : List (Int × List Int)) : (freqR t L).length ≤ 256 := by
  unfold freqR
  split
  · rw [freqL_len]; omega
  · simp
/-- Two own slices, apart from each other, and whether. -/
def FqP (X Y : List Int) (F : Bool) (w : World) (e : Ending) (w' : World) : Prop :=
  ∃ v1 v2, e = .returned (.tuple #[v1, v2, .bool F]) ∧ (Own w' w.heap.size 3 .i64 v1 X ∧ Own w' w.heap.size 3 .i64 v2 Y ∧ ∀ g, v1.ownBlock = some g → v2.ownBlock ≠ some g) ∧ Below w.heap.size w w'

set_option maxRecDepth 100000 in
set_option maxHeartbeats 800000 in
theorem impl_scanFreqs (ao : Option Addr) (cap : Nat) (L : List (Int × List Int)) (w : World) (hn : L.length ≤ 1048576) (hs : ∀ j, j < L.length → (nth L j).2.length ≤ 1048576) (hv : BRow w ao L) :
    Calls Tryz.prog 86 #[.slice ao L.length cap] w (FqP (freqR 0 L) (freqR 1 L) (freqB L) w) := by
  by_cases hk : scanOk L
  · have HPA := hid (parts_yes ao cap L w hk.1 hk.2 hv)
    have HSY := hid (fun j hj => ptsTo_sym L hk.2 L.length (Nat.le_refl _) _ (nthP_mem (ptsTo L L.length) j hj))
    have hpl := ptsTo_len L hk.2 L.length (Nat.le_refl _)
    have hl := hk.1
    rw [freqR_yes hk, freqR_yes hk, freqB_yes hk]
    clear hk hv hs
    generalize ptsTo L L.length = P at *
    have hP : P.length ≤ 1000000 := by omega
    go_enter Tryz.func86, Tryz.ntmps86
    go_wp2_with fail
    refine HPA.out.mono ?_
    rintro e w1 ⟨v1, rfl, ho1, hb1⟩
    obtain ⟨po, pc, rfl⟩ := ho1.shape
    have HF := hid (freqs_of po pc w.heap.size P w1 hP HSY.out ho1)
    have B1 := hid hb1
    clear ho1 hb1 HPA
    go_wp2_with fail
    refine HF.out.mono ?_
    rintro e w2 ⟨g1, g2, rfl, ⟨hne, o1, o2⟩, hb2⟩
    have HA := hid ((Below.refl w2.heap.size w2).alloc (Nat.le_refl _) (.cells #[.slice (some ⟨g1, 0, none⟩) 256 256, .slice (some ⟨g2, 0, none⟩) 256 256] 132))
    have HT := hid (Two.new w2 (.slice (some ⟨g1, 0, none⟩) 256 256) (.slice (some ⟨g2, 0, none⟩) 256 256) 132)
    have B2 := hid (B1.out.trans (hb2.mono B1.out.size))
    have B3 := hid (B2.out.trans (HA.out.mono B2.out.size))
    have O1 := hid ((o1.below HA.out).mono B1.out.size)
    have O2 := hid ((o2.below HA.out).mono B1.out.size)
    clear o1 o2 hb2
    go_wp2_with fail
    generalize w2.alloc (.cells #[.slice (some ⟨g1, 0, none⟩) 256 256, .slice (some ⟨g2, 0, none⟩) 256 256] 132) = w3 at *
    obtain ⟨q1, q2, q3, q4⟩ := HT.out.cells
    go_quiet (fail)
    go_wp2_with fail
    refine bodyPost_ret (v := .tuple #[.slice (some ⟨g1, 0, none⟩) 256 256, .slice (some ⟨g2, 0, none⟩) 256 256, .bool true]) (by simp [results, Tryz.results86, go_sem]) rfl ⟨_, _, rfl, ⟨O1.out, O2.out, fun g h h' => ?_⟩, ?_⟩
    · simp [Value.ownBlock] at h h'
      omega
    · first | exact B3.out | exact B3.out.drew | exact belowN B3.out _
  · have HPA := hid (parts_no ao cap L w hn hs hv hk)
    rw [freqR_no hk, freqR_no hk, freqB_no hk]
    clear hk hv hs
    go_enter Tryz.func86, Tryz.ntmps86
    go_wp2_with fail
    refine HPA.out.mono ?_
    rintro e w1 ⟨rfl, hb1⟩
    have B1 := hid hb1
    have hs1 : w.heap.size ≤ w1.heap.size := hb1.size
    clear hb1 HPA
    go_wp2_with fail
    refine bodyPost_ret (v := .tuple #[.slice (some ⟨w1.heap.size, 0, none⟩) 0 0, .slice (some ⟨w1.heap.size + 1, 0, none⟩) 0 0, .bool false]) (by simp [results, Tryz.results86, go_sem]) rfl ⟨_, _, rfl, ⟨?_, ?_, fun g h h' => ?_⟩, ?_⟩
    · exact (Own.empty w1 3 .i64 w.heap.size hs1).alloc _
    · have := Own.empty (w1.alloc (.cells #[] 3)) 3 .i64 w.heap.size (Nat.le_trans hs1 (by simp))
      simpa using this
    · simp [Value.ownBlock] at h h'
      omega
    · exact (B1.out.alloc hs1 _).alloc (Nat.le_trans hs1 (by simp)) _
end Go.Proofs.YtnnakmgngkpghaaGreat

/- How often symbols stand: the contract of ScanFreqs of the specification. -/
namespace Go.Proofs.YtnnakmgngkpghaaGreat
open Go.RowKit
set_option linter.unusedVariables false

theorem own_some {w : World} {base : Nat} {v : Value} (h : Own w base 3 .i64 v (List.replicate 256 0)) : ∃ g c, v = .slice (some ⟨g, 0, none⟩) 256 c := by
  rcases h.2.2 with ⟨_, h0⟩ | ⟨g, c, cur, hv, _⟩
  · rw [List.length_replicate] at h0; omega
  · exact ⟨g, c, by rw [hv, List.length_replicate]⟩

set_option maxHeartbeats 800000 in
theorem zeros256 (w : World) : Calls Tryz.prog 91 #[] w fun e w' => ∃ g c, e = .returned (.slice (some ⟨g, 0, none⟩) 256 c) ∧ Own w' w.heap.size 3 .i64 (.slice (some ⟨g, 0, none⟩) 256 c) (List.replicate 256 0) ∧ Below w.heap.size w w' := by
  have HO := hid (Own.empty w 3 .i64 w.heap.size (Nat.le_refl _))
  have HB := hid ((Below.refl w.heap.size w).alloc (Nat.le_refl _) (.cells #[] 3))
  go_enter Tryz.func91, Tryz.ntmps91
  go_wp2_with fail
  generalize w.alloc (.cells #[] 3) = wa at *
  go_loopw [1, 2] (fun o i wr => ∃ k : Nat, k ≤ 256 ∧ i = .int .i64 k ∧ Hid (Own wr w.heap.size 3 .i64 o (List.replicate k 0)) ∧ Hid (Below w.heap.size w wr)) (fun _ i _ => 256 - (intOf i).toNat)
  case atStart => exact ⟨0, by omega, rfl, HO.out, HB.out⟩
  case round =>
    obtain ⟨k, hk, rfl, hown, hb⟩ := hrel
    clear HO HB
    by_cases hlt : k < 256
    · have hlt' : (k : Int) < 256 := by omega
      have HRP := hid (show List.replicate k (0 : Int) ++ [0] = List.replicate (k + 1) 0 from List.replicate_succ'.symm)
      have hrl : (List.replicate k (0 : Int)).length < 1000000000000 := by rw [List.length_replicate]; omega
      go_wp2_with (at_builtin; refine wpList_push _ rfl _ _ 22 rfl _ 3 .i64 0 8 Tryz.underlying22 Tryz.info3 _ _ rfl hown.out 0 rfl hrl (by decide) ?_)
      intro v8 w8 ho8 hb8
      rw [HRP.out] at ho8
      have HO8 := hid ho8
      have HB8 := hid (hb.out.trans hb8)
      clear ho8 hb8
      go_wp2_with fail
      go_roundw
      case rel => exact ⟨k + 1, by omega, by go_num, HO8.out, HB8.out⟩
      case measure => simp [intOf]; omega
    · obtain rfl : k = 256 := by omega
      obtain ⟨g, c, rfl⟩ := own_some hown.out
      go_wp2_with fail
      go_ret
      exact ⟨g, c, rfl, hown.out, hb.out⟩
theorem fq_zero (L : List (Int × List Int)) (k j : Nat) (h : sz (df L k) = (j : Int)) (hj : j < 256) : freqL 0 (ptsAt L k 0) = (freqL 0 (ptsTo L k)).set j (cnt 0 j (ptsTo L k) + 1) ∧ freqL 1 (ptsAt L k 0) = freqL 1 (ptsTo L k) := by
  have e : ptsAt L k 0 = ptsTo L k ++ [.inl (0, (sz (df L k)))] ++ [.inr (restL (df L k))] := by simp [ptsAt, ptsS]
  rw [e, h, freqL_b, freqL_b, freqL_bump 0 _ j hj, freqL_other 1 0 _ _ (by decide)]
  exact ⟨rfl, rfl⟩
theorem fq_step (L : List (Int × List Int)) (k m j : Nat) (s : Int × Int × List Int) (hs : nthS (stepsR (nth L k).1 (nth L k).2) m = s) (h : 16 * s.1 + s.2.1 = (j : Int)) (hj : j < 256) : freqL 0 (ptsAt L k (m + 1)) = freqL 0 (ptsAt L k m) ∧ freqL 1 (ptsAt L k (m + 1)) = (freqL 1 (ptsAt L k m)).set j (cnt 1 j (ptsAt L k m) + 1) := by
  have e : ptsAt L k (m + 1) = ptsAt L k m ++ [.inl (1, (16 * s.1 + s.2.1))] ++ [.inr s.2.2] := by simp [ptsAt, ptsS, hs]
  rw [e, h, freqL_b, freqL_b, freqL_bump 1 _ j hj, freqL_other 0 1 _ _ (by decide)]
  exact ⟨rfl, rfl⟩
theorem ptsAt_len (L : List (Int × List Int)) (h : oksTo L L.length = true) (k m : Nat) (hk : k < L.length) (hm : m ≤ 63) : (ptsAt L k m).length ≤ (k + 1) * 128 := by
  have h1 := ptsTo_len L h k (by omega)
  unfold ptsAt
  rw [List.length_append, List.length_append, ptsS_len]
  simp
  omega
theorem Own.cellF {w : World} {base g n c : Nat} {t : Int} {P : List Pt} (h : Own w base 3 .i64 (.slice (some ⟨g, 0, none⟩) n c) (freqL t P)) (j : Nat) (hj : j < 256) : w.cell? ⟨g, j, none⟩ = some (.int .i64 (cnt t j P)) := by
  have h1 := h.cell rfl j (by rw [freqL_len]; exact hj)
  rw [Addr.add_lit, Nat.zero_add, freqL_get t _ j hj] at h1
  exact h1
theorem Own.freeF {w : World} {base g n c : Nat} {xs : List Int} (h : Own w base 3 .i64 (.slice (some ⟨g, 0, none⟩) n c) xs) (j : Nat) : w.frozen? ⟨g, j, none⟩ = false := by
  obtain ⟨_, _, e⟩ := h.shape
  cases e
  exact h.2.frozenAt j

set_option maxRecDepth 100000 in
set_option maxHeartbeats 1600000 in
theorem spec_scanFreqs (ao : Option Addr) (cap : Nat) (L : List (Int × List Int)) (w : World) (hn : L.length ≤ 1048576) (hs : ∀ j, j < L.length → (nth L j).2.length ≤ 1048576) (hv : BRow w ao L) :
    Calls Tryz.prog 77 #[.slice ao L.length cap] w (FqP (freqR 0 L) (freqR 1 L) (freqB L) w) := by
  have HSH := hid (spec_shift ao cap L true w hn hs hv)
  have HV := hid hv
  clear hv hs
  by_cases hk : scanOk L
  · have hRR := shR_yes (up := true) (show L.length ≤ 4000 by have := hk.1; omega) hk.2
    have hl' : ¬ (1600 : Int) < (L.length : Int) := by have := hk.1; omega
    have hlen16 := hk.1
    have HOK := hid (oksTo_at L L.length hk.2)
    have HDF := hid (fun k hk' => df_bd L k hk.2 hk')
    have HPL := hid (fun k hk' => ptsTo_len L hk.2 k hk')
    have HAL := hid (fun k m hk' hm => ptsAt_len L hk.2 k m hk' hm)
    have HLN := hid (shl_len true L L.length)
    have HG := hid (fun i hi => shl_get true L L.length i hi)
    rw [hRR] at HSH
    rw [freqR_yes hk, freqR_yes hk, freqB_yes hk]
    clear hk hRR
    generalize shl true L L.length = ST at *
    go_enter Tryz.func77, Tryz.ntmps77
    go_wp2_with fail
    refine HSH.out.mono ?_
    rintro e w1 ⟨v1, rfl, ho1, hb1⟩
    obtain ⟨d1, c1, rfl, hv1⟩ := ho1.view
    simp only [HLN.out] at hv1 ⊢
    have HV1 := hid hv1
    have B1 := hid hb1
    clear ho1 hb1 hv1 HSH
    go_wp2_with fail
    refine (zeros256 w1).mono ?_
    rintro e w2 ⟨g1, e1, rfl, o1, hb2⟩
    have O1 := hid o1
    have B2 := hid hb2
    have hg1 : w1.heap.size ≤ g1 ∧ g1 < w2.heap.size := o1.ge
    clear o1 hb2
    go_wp2_with fail
    refine (zeros256 w2).mono ?_
    rintro e w3 ⟨g2, e2, rfl, o2, hb3⟩
    have hg2 : w2.heap.size ≤ g2 ∧ g2 < w3.heap.size := o2.ge
    have P1 := hid (O1.out.below hb3)
    have P2 := hid (o2.mono (show w1.heap.size ≤ w2.heap.size by omega))
    have B3 := hid (B2.out.trans (hb3.mono B2.out.size))
    have BW3 := hid (B1.out.trans (B3.out.mono B1.out.size))
    have HV3 := hid (HV1.out.below (Nat.le_refl _) B3.out)
    have HN0 := hid (freqL_nil 0)
    have HN1 := hid (freqL_nil 1)
    have hww1 : w.heap.size ≤ w1.heap.size := B1.out.size
    clear o2 hb3 O1
    go_wp2_with fail
    go_loopw [9] (fun i wr => ∃ k : Nat, k ≤ L.length ∧ i = .int .i64 k ∧ Hid (Own wr w1.heap.size 3 .i64 (.slice (some ⟨g1, 0, none⟩) 256 e1) (freqL 0 (ptsTo L k))) ∧ Hid (Own wr w1.heap.size 3 .i64 (.slice (some ⟨g2, 0, none⟩) 256 e2) (freqL 1 (ptsTo L k))) ∧ Hid (Below g1 w3 wr)) (fun i _ => L.length - (intOf i).toNat)
    case atStart => exact ⟨0, by omega, rfl, by rw [show ptsTo L 0 = [] from rfl, HN0.out]; exact P1.out, by rw [show ptsTo L 0 = [] from rfl, HN1.out]; exact P2.out, Below.refl _ _⟩
    case round =>
      obtain ⟨k, hk, rfl, o1, o2, hb⟩ := hrel
      clear P1 P2 HN0 HN1
      have HBW := hid (BW3.out.trans (hb.out.mono (show w.heap.size ≤ g1 by omega)))
      by_cases hlt : k < L.length
      · have hlt' : (k : Int) < (L.length : Int) := by omega
        have hdf := HDF.out k hlt
        obtain ⟨j, hj⟩ := Int.eq_ofNat_of_zero_le (sz_bd hdf).1
        have hj256 : j < 256 := by have := (sz_bd hdf).2; omega
        have hj' : (j : Int) < 256 := by omega
        obtain ⟨b2, off2, rfl, hd0⟩ := HV1.out.2 k hlt
        have hb2l : b2 < w1.heap.size := World.block_lt_of_cell? w1 ⟨b2, off2 + k, none⟩ hd0
        have hd : wr.cell? ⟨b2, off2 + k, none⟩ = some (.int .i64 (df L k)) := by
          rw [(hb.out.cell (p := ⟨b2, off2 + k, none⟩) (show b2 < g1 by omega)).trans ((B3.out.cell (p := ⟨b2, off2 + k, none⟩) hb2l).trans hd0), HG.out k hlt]
          rfl
        have HSI := hid (fun q => spec_size (df L k) q (by omega) (by omega))
        have HFZ := hid (fq_zero L k j hj hj256)
        rw [hj] at HSI
        have c1' := o1.out.cellF j hj256
        have z1 := o1.out.freeF j
        have hcb := cnt_bd 0 j (ptsTo L k)
        have hpl := HPL.out k hk
        have HF := hid (stepsR_fine _ _ (HOK.out k hlt))
        generalize cnt 0 j (ptsTo L k) = N0 at *
        generalize hX : df L k = X at *
        have hw0 : IntKind.i64.wrap (N0 + 1) = N0 + 1 := by rw [IntKind.wrap_i64]; omega
        have hne : b2 ≠ g1 := by omega
        have hkeep : ∀ (u : Value), (wr.setCell ⟨g1, j, none⟩ u).cell? ⟨b2, off2 + k, none⟩ = some (.int .i64 X) := fun u => by
          rw [← hd]
          exact World.cell?_of_block (w := wr) (a := ⟨b2, off2 + k, none⟩) (heap_setCell_other _ ⟨g1, j, none⟩ b2 _ (fun e => hne e))
        clear hX hj hd0
        go_wp2_with fail
        go_cut [9] from 29 to 81 (fun s wx => s = .int .i64 (k : Int) ∧ ∃ n, wx = (wr.setCell ⟨g1, j, none⟩ (.int .i64 (N0 + 1))).drewN n)
        case first =>
          go_region_with (first
            | (go_at_call 72; refine (HSI.out _).mono ?_; rintro e w6 ⟨rfl, rfl⟩))
          all_goals
            go_wp2_with fail
            go_meet
            exact ⟨rfl, 1, rfl⟩
        case rest =>
          obtain ⟨rfl, nn, hwx⟩ := hcut
          generalize hwc : wc = wx at *
          clear hwc
          have Q1 := hid (show Own wx w1.heap.size 3 .i64 (.slice (some ⟨g1, 0, none⟩) 256 e1) (freqL 0 (ptsAt L k 0)) by rw [hwx, HFZ.out.1]; exact (o1.out.store j (N0 + 1)).drew nn)
          have Q2 := hid (show Own wx w1.heap.size 3 .i64 (.slice (some ⟨g2, 0, none⟩) 256 e2) (freqL 1 (ptsAt L k 0)) by rw [hwx, HFZ.out.2]; exact (o2.out.storeOther (fun a n c h => by cases h; show g2 ≠ g1; omega) _).drew nn)
          have QB := hid (show Below g1 w3 wx by rw [hwx]; exact belowN (hb.out.setCell (p := ⟨g1, j, none⟩) (Nat.le_refl _) _) nn)
          have QW := hid (BW3.out.trans (QB.out.mono (show w.heap.size ≤ g1 by omega)))
          clear hwx c1' z1 hkeep hd HSI HFZ o1 o2 hb HBW hw0 hcb
          obtain ⟨b, off, a, c, rfl, hc1w, hc2w, hvw⟩ := HV.out k hlt
          have hc1 := (QW.out.cell (p := ⟨b, off + k * 2, none⟩) (World.block_lt_of_cell? w _ hc1w)).trans hc1w
          have hc2 := (QW.out.cell (p := ⟨b, off + k * 2 + 1, none⟩) (World.block_lt_of_cell? w _ hc2w)).trans hc2w
          have hxl : (nth L k).2.length ≤ 1048576 := by
            have h63 := HOK.out k hlt
            unfold blkOk at h63
            simp only [Bool.and_eq_true, decide_eq_true_eq] at h63
            omega
          have HIS := hid (spec_steps (.agg #[.int .i64 (nth L k).1, .slice a (nth L k).2.length c]) (nth L k).1 (nth L k).2 wx hxl ⟨a, c, rfl, hvw.below (Nat.le_refl _) QW.out⟩)
          have HFS := hid (fun m j s e h hj => fq_step L k m j s e h hj)
          have HEND := hid (ptsAt_end L k)
          have HALK := hid (fun m hm => HAL.out k m hlt hm)
          clear hc1w hc2w hvw hxl
          generalize stepsR (nth L k).1 (nth L k).2 = S at *
          generalize (nth L k).1 = D at *
          generalize (nth L k).2 = XS at *
          go_wp2_with fail
          refine HIS.out.mono ?_
          rintro e w8 ⟨v8, rfl, ⟨vs, hot⟩, hb8⟩
          obtain ⟨so, sc, rfl⟩ := hot.shape
          have HOT := hid hot
          have R1 := hid (Q1.out.below hb8)
          have R2 := hid (Q2.out.below hb8)
          have RB := hid (QB.out.trans (hb8.mono (show g1 ≤ wx.heap.size by have := Q1.out.ge.2; exact Nat.le_of_lt this)))
          have hgx1 : g1 < wx.heap.size := Q1.out.ge.2
          have hgx2 : g2 < wx.heap.size := Q2.out.ge.2
          have hSl := HF.out.1
          clear hot hb8 hc1 hc2 HIS Q1 Q2 QB QW
          go_wp2_with fail
          go_loopw [11] (fun i wq => ∃ m : Nat, m ≤ S.length ∧ i = .int .i64 m ∧ Hid (Own wq w1.heap.size 3 .i64 (.slice (some ⟨g1, 0, none⟩) 256 e1) (freqL 0 (ptsAt L k m))) ∧ Hid (Own wq w1.heap.size 3 .i64 (.slice (some ⟨g2, 0, none⟩) 256 e2) (freqL 1 (ptsAt L k m))) ∧ Hid (OwnT wq wx.heap.size (.slice so S.length sc) S vs) ∧ Hid (Below g1 w3 wq)) (fun i _ => S.length - (intOf i).toNat)
          case atStart => exact ⟨0, by omega, rfl, R1.out, R2.out, HOT.out, RB.out⟩
          case round =>
            obtain ⟨m, hm, rfl, o1, o2, ht, hb⟩ := hrel
            clear R1 R2 HOT RB
            by_cases hlt2 : m < S.length
            · have hlt2' : (m : Int) < (S.length : Int) := by omega
              obtain ⟨g, ya, yc, rfl, r0, r1, r2, hoy⟩ := ht.out.at_ m hlt2
              obtain ⟨⟨f0, f1⟩, ⟨f2, f3⟩, f4⟩ := HF.out.2 m hlt2
              obtain ⟨jj, hjj⟩ := Int.eq_ofNat_of_zero_le (show 0 ≤ 16 * (nthS S m).1 + (nthS S m).2.1 by omega)
              have hjj256 : jj < 256 := by omega
              have hjj' : (jj : Int) < 256 := by omega
              have HNX := hid (HFS.out m jj (nthS S m) rfl hjj hjj256)
              have cc := o2.out.cellF jj hjj256
              have zz := o2.out.freeF jj
              have hcb := cnt_bd 1 jj (ptsAt L k m)
              have hal := HALK.out m (by omega)
              generalize cnt 1 jj (ptsAt L k m) = N1 at *
              generalize (nthS S m).1 = RN at *
              generalize (nthS S m).2.1 = SZ at *
              have hw1 : IntKind.i64.wrap (16 * RN) = 16 * RN := by rw [IntKind.wrap_i64]; omega
              have hw2 : IntKind.i64.wrap (16 * RN + SZ) = (jj : Int) := by rw [IntKind.wrap_i64]; omega
              have hw3 : IntKind.i64.wrap (N1 + 1) = N1 + 1 := by rw [IntKind.wrap_i64]; omega
              clear hoy
              have K2 := hid (o2.out.store jj (N1 + 1))
              have K1 := hid (o1.out.storeOther (i := jj) (g := g2) (fun a n c h => by cases h; show g1 ≠ g2; omega) (.int .i64 (N1 + 1)))
              have K3 := hid (hb.out.setCell (p := ⟨g2, jj, none⟩) (show g1 ≤ g2 by omega) (.int .i64 (N1 + 1)))
              have K4 := hid (ht.out.keepM (w' := wr.setCell ⟨g2, jj, none⟩ (.int .i64 (N1 + 1))) (by simp) (fun x h0 h1 => heap_setCell_other _ ⟨g2, jj, none⟩ x _ (fun e => by have e' : x = g2 := e; omega)))
              rw [← HNX.out.1] at K1
              rw [← HNX.out.2] at K2
              go_wp2_with fail
              go_quiet (fail)
              go_wp2_with fail
              go_roundw
              case rel => exact ⟨m + 1, by omega, by go_num, K1.out.drew _, K2.out.drew _, K4.out, belowN K3.out _⟩
              case measure => simp [intOf]; omega
            · obtain rfl : m = S.length := by omega
              have HE1 := hid (show Own wr w1.heap.size 3 .i64 (.slice (some ⟨g1, 0, none⟩) 256 e1) (freqL 0 (ptsTo L (k + 1))) by rw [← HEND.out]; exact o1.out)
              have HE2 := hid (show Own wr w1.heap.size 3 .i64 (.slice (some ⟨g2, 0, none⟩) 256 e2) (freqL 1 (ptsTo L (k + 1))) by rw [← HEND.out]; exact o2.out)
              go_wp2_with fail
              go_roundw
              case rel => exact ⟨k + 1, by omega, by go_num, HE1.out, HE2.out, hb.out⟩
              case measure => simp [intOf]; omega
      · obtain rfl : k = L.length := by omega
        have hbe := HBW.out
        go_wp2_with fail
        refine bodyPost_ret (v := .tuple #[.slice (some ⟨g1, 0, none⟩) 256 e1, .slice (some ⟨g2, 0, none⟩) 256 e2, .bool true]) (by simp [results, Tryz.results77, go_sem]) rfl ⟨_, _, rfl, ⟨o1.out.mono hww1, o2.out.mono hww1, fun g h h' => ?_⟩, hbe⟩
        simp [Value.ownBlock] at h h'
        omega
  · have hcase : (shR true L).2 = false ∨ (shR true L).2 = true ∧ 1600 < L.length := by
      by_cases h : L.length ≤ 4000 ∧ oksTo L L.length = true
      · refine .inr ⟨by rw [shR_yes h.1 h.2], ?_⟩
        have : ¬ L.length ≤ 1600 := fun h' => hk ⟨h', h.2⟩
        omega
      · exact .inl (by rw [shR_no h])
    rw [freqR_no hk, freqR_no hk, freqB_no hk]
    clear hk
    go_enter Tryz.func77, Tryz.ntmps77
    go_wp2_with fail
    refine HSH.out.mono ?_
    rintro e w1 ⟨v1, rfl, ho1, hb1⟩
    obtain ⟨d1, c1, rfl⟩ := ho1.shape
    have B1 := hid hb1
    have hs1 : w.heap.size ≤ w1.heap.size := hb1.size
    clear ho1 hb1 HSH
    have FIN : FqP [] [] false w (.returned (.tuple #[.slice (some ⟨w1.heap.size, 0, none⟩) 0 0, .slice (some ⟨w1.heap.size + 1, 0, none⟩) 0 0, .bool false])) ((w1.alloc (.cells #[] 3)).alloc (.cells #[] 3)) := by
      refine ⟨_, _, rfl, ⟨(Own.empty w1 3 .i64 w.heap.size hs1).alloc _, ?_, fun g h h' => ?_⟩, (B1.out.alloc hs1 _).alloc (Nat.le_trans hs1 (by simp)) _⟩
      · have := Own.empty (w1.alloc (.cells #[] 3)) 3 .i64 w.heap.size (Nat.le_trans hs1 (by simp))
        simpa using this
      · simp [Value.ownBlock] at h h'
        omega
    have HFIN := hid FIN
    clear FIN
    rcases hcase with hc | ⟨hc, hl⟩
    · rw [hc]
      go_wp2_with fail
      refine bodyPost_ret (v := .tuple #[.slice (some ⟨w1.heap.size, 0, none⟩) 0 0, .slice (some ⟨w1.heap.size + 1, 0, none⟩) 0 0, .bool false]) (by simp [results, Tryz.results77, go_sem]) rfl HFIN.out
    · have hl' : (1600 : Int) < (L.length : Int) := by omega
      rw [hc]
      go_wp2_with fail
      refine bodyPost_ret (v := .tuple #[.slice (some ⟨w1.heap.size, 0, none⟩) 0 0, .slice (some ⟨w1.heap.size + 1, 0, none⟩) 0 0, .bool false]) (by simp [results, Tryz.results77, go_sem]) rfl HFIN.out
end Go.Proofs.YtnnakmgngkpghaaGreat
