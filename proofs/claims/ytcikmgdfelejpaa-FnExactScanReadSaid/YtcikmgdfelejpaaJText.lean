/- ScanText of both sides, and the walk of the law FnExactScanText. -/
import Derived.Test.YtcikmgdfelejpaaJCost
import Derived.Test.YtcikmgdfelejpaaJPutLaw
import Derived.Test.YtcikmgdfelejpaaJStuffW
namespace Go.Proofs.Ytcikmgdfelejpaa
open Go.RowKit Go.Maps
set_option linter.unusedVariables false

theorem both_put (xs : List Int) (hn : xs.length ≤ 480000) : ∃ s : ByteArray, s.size ≤ 60000 ∧
    (∀ ao cap w, View .i64 w ao xs.length xs → Calls Try.prog 59 #[.slice ao xs.length cap] w fun e w' => e = .returned (.string s) ∧ Below w.heap.size w w') ∧
    (∀ ao cap w, View .i64 w ao xs.length xs → Calls Try.prog 61 #[.slice ao xs.length cap] w fun e w' => e = .returned (.string s) ∧ Below w.heap.size w w') := by
  by_cases h : ∀ j, j < xs.length → Bit (xs.getD j 0)
  · refine ⟨strOfNums (packTo (pad xs) ((xs.length + 7) / 8)), ?_, fun ao cap w hv => spec_putBits ao _ cap xs w hn hv h, fun ao cap w hv => impl_putBits ao _ cap xs w hn hv h⟩
    rw [strOfNums_size, packTo_length]
    omega
  · exact ⟨⟨#[]⟩, by decide, fun ao cap w hv => spec_putBits_no ao _ cap xs w (by omega) hv (.inr h), fun ao cap w hv => impl_putBits_no ao _ cap xs w (by omega) hv (.inr h)⟩

set_option maxHeartbeats 800000 in
theorem text_i (v : Value) (T : Tb) (ao : Option Addr) (cap : Nat) (L : List (Int × List Int)) (w : World) (h0 : T.cs.length ≤ 1048576) (h1 : T.ss.length ≤ 1048576) (h2 : T.ct.length ≤ 1048576) (h3 : T.st.length ≤ 1048576)
    (hn : L.length ≤ 1048576) (hs : ∀ j, j < L.length → (nth L j).2.length ≤ 1048576) (ht : TV w v T.cs T.ss T.ct T.st) (hv : BRow w ao L) (r : List Int) (s u : ByteArray) (hR : scanR T L = some r)
    (hp : ∀ ao cap w, View .i64 w ao r.length r → Calls Try.prog 61 #[.slice ao r.length cap] w fun e w' => e = .returned (.string s) ∧ Below w.heap.size w w') (hu : ∀ w, Calls Try.prog 60 #[.string s] w fun e w' => e = .returned (.string u) ∧ Below w.heap.size w w') :
    Calls Try.prog 31 #[v, .slice ao L.length cap] w fun e w' => e = .returned (.tuple #[.string u, .bool true]) ∧ Below w.heap.size w w' := by
  have HTV := hid ht
  obtain ⟨a0, c0, a1, c1, a2, c2, a3, c3, rfl, _, _⟩ := ht
  have HB := hid ((Below.refl w.heap.size w).alloc (Nat.le_refl _) (.cells #[.slice a0 T.cs.length c0, .slice a1 T.ss.length c1, .slice a2 T.ct.length c2, .slice a3 T.st.length c3] 34))
  have HI := hid (impl_scanBits _ T ao cap L _ h0 h1 h2 h3 hn hs (HTV.out.below HB.out) (hv.below HB.out))
  rw [hR] at HI
  have HP := hid hp
  have HU := hid hu
  clear hv hs hp hu hR
  go_enter Try.func31, Try.ntmps31
  go_wp2_with fail
  refine HI.out.mono ?_
  generalize w.alloc (.cells #[.slice a0 T.cs.length c0, .slice a1 T.ss.length c1, .slice a2 T.ct.length c2, .slice a3 T.st.length c3] 34) = wa at *
  rintro e w1 ⟨v1, rfl, ho1, hb1⟩
  have B1 := hid (HB.out.trans (hb1.mono HB.out.size))
  obtain ⟨xo, xc, rfl, hvw⟩ := (show Own w1 wa.heap.size 3 .i64 v1 r from ho1).view
  have HVW := hid hvw
  clear ho1 hb1 HI hvw
  simp only [Option.isSome_some]
  go_wp2_with fail
  refine (HP.out _ _ _ HVW.out).mono ?_
  rintro e w2 ⟨rfl, hb2⟩
  have B2 := hid (B1.out.trans (hb2.mono B1.out.size))
  clear hb2
  go_wp2_with fail
  refine (HU.out _).mono ?_
  rintro e w3 ⟨rfl, hb3⟩
  have B3 := hid (B2.out.trans (hb3.mono B2.out.size))
  clear hb3
  go_wp2_with fail
  go_ret2
  exact ⟨rfl, B3.out⟩
theorem text_i_no (v : Value) (T : Tb) (ao : Option Addr) (cap : Nat) (L : List (Int × List Int)) (w : World) (h0 : T.cs.length ≤ 1048576) (h1 : T.ss.length ≤ 1048576) (h2 : T.ct.length ≤ 1048576) (h3 : T.st.length ≤ 1048576)
    (hn : L.length ≤ 1048576) (hs : ∀ j, j < L.length → (nth L j).2.length ≤ 1048576) (ht : TV w v T.cs T.ss T.ct T.st) (hv : BRow w ao L) (hR : scanR T L = none) :
    Calls Try.prog 31 #[v, .slice ao L.length cap] w fun e w' => e = .returned (.tuple #[.string ⟨#[]⟩, .bool false]) ∧ Below w.heap.size w w' := by
  have HTV := hid ht
  obtain ⟨a0, c0, a1, c1, a2, c2, a3, c3, rfl, _, _⟩ := ht
  have HB := hid ((Below.refl w.heap.size w).alloc (Nat.le_refl _) (.cells #[.slice a0 T.cs.length c0, .slice a1 T.ss.length c1, .slice a2 T.ct.length c2, .slice a3 T.st.length c3] 34))
  have HI := hid (impl_scanBits _ T ao cap L _ h0 h1 h2 h3 hn hs (HTV.out.below HB.out) (hv.below HB.out))
  rw [hR] at HI
  clear hv hs hR
  go_enter Try.func31, Try.ntmps31
  go_wp2_with fail
  refine HI.out.mono ?_
  generalize w.alloc (.cells #[.slice a0 T.cs.length c0, .slice a1 T.ss.length c1, .slice a2 T.ct.length c2, .slice a3 T.st.length c3] 34) = wa at *
  rintro e w1 ⟨v1, rfl, ho1, hb1⟩
  have B1 := hid (HB.out.trans (hb1.mono HB.out.size))
  obtain ⟨xo, xc, rfl⟩ := ho1.shape
  clear ho1 hb1 HI
  simp only [Option.isSome_none]
  go_wp2_with fail
  go_ret2
  exact ⟨rfl, B1.out⟩
set_option maxHeartbeats 800000 in
theorem text_s (v : Value) (T : Tb) (ao : Option Addr) (cap : Nat) (L : List (Int × List Int)) (w : World) (h0 : T.cs.length ≤ 1048576) (h1 : T.ss.length ≤ 1048576) (h2 : T.ct.length ≤ 1048576) (h3 : T.st.length ≤ 1048576)
    (hn : L.length ≤ 1048576) (hs : ∀ j, j < L.length → (nth L j).2.length ≤ 1048576) (ht : TV w v T.cs T.ss T.ct T.st) (hv : BRow w ao L) (r : List Int) (s u : ByteArray) (hR : scanR T L = some r) (hr : r.length ≤ 480000)
    (hp : ∀ ao cap w, View .i64 w ao r.length r → Calls Try.prog 59 #[.slice ao r.length cap] w fun e w' => e = .returned (.string s) ∧ Below w.heap.size w w') (hu : ∀ w, Calls Try.prog 58 #[.string s] w fun e w' => e = .returned (.string u) ∧ Below w.heap.size w w') :
    Calls Try.prog 30 #[v, .slice ao L.length cap] w fun e w' => e = .returned (.tuple #[.string u, .bool true]) ∧ Below w.heap.size w w' := by
  have HTV := hid ht
  obtain ⟨a0, c0, a1, c1, a2, c2, a3, c3, rfl, _, _⟩ := ht
  have HB := hid ((Below.refl w.heap.size w).alloc (Nat.le_refl _) (.cells #[.slice a0 T.cs.length c0, .slice a1 T.ss.length c1, .slice a2 T.ct.length c2, .slice a3 T.st.length c3] 34))
  have HI := hid (spec_scanBits _ T ao cap L _ h0 h1 h2 h3 hn hs (HTV.out.below HB.out) (hv.below HB.out))
  rw [hR] at HI
  have HP := hid hp
  have HU := hid hu
  clear hv hs hp hu hR
  go_enter Try.func30, Try.ntmps30
  go_wp2_with fail
  refine HI.out.mono ?_
  generalize w.alloc (.cells #[.slice a0 T.cs.length c0, .slice a1 T.ss.length c1, .slice a2 T.ct.length c2, .slice a3 T.st.length c3] 34) = wa at *
  rintro e w1 ⟨v1, rfl, ho1, hb1⟩
  have B1 := hid (HB.out.trans (hb1.mono HB.out.size))
  obtain ⟨xo, xc, rfl, hvw⟩ := (show Own w1 wa.heap.size 3 .i64 v1 r from ho1).view
  have HVW := hid hvw
  have hlim : ¬ (60000 : Int) < ((r.length : Int) + 7) / 8 := by omega
  clear ho1 hb1 HI hvw
  simp only [Option.isSome_some]
  go_wp2_with fail
  refine (HP.out _ _ _ HVW.out).mono ?_
  rintro e w2 ⟨rfl, hb2⟩
  have B2 := hid (B1.out.trans (hb2.mono B1.out.size))
  clear hb2
  go_wp2_with fail
  refine (HU.out _).mono ?_
  rintro e w3 ⟨rfl, hb3⟩
  have B3 := hid (B2.out.trans (hb3.mono B2.out.size))
  clear hb3
  go_wp2_with fail
  go_ret2
  exact ⟨rfl, B3.out⟩
theorem text_s_no (v : Value) (T : Tb) (ao : Option Addr) (cap : Nat) (L : List (Int × List Int)) (w : World) (h0 : T.cs.length ≤ 1048576) (h1 : T.ss.length ≤ 1048576) (h2 : T.ct.length ≤ 1048576) (h3 : T.st.length ≤ 1048576)
    (hn : L.length ≤ 1048576) (hs : ∀ j, j < L.length → (nth L j).2.length ≤ 1048576) (ht : TV w v T.cs T.ss T.ct T.st) (hv : BRow w ao L) (hR : scanR T L = none) :
    Calls Try.prog 30 #[v, .slice ao L.length cap] w fun e w' => e = .returned (.tuple #[.string ⟨#[]⟩, .bool false]) ∧ Below w.heap.size w w' := by
  have HTV := hid ht
  obtain ⟨a0, c0, a1, c1, a2, c2, a3, c3, rfl, _, _⟩ := ht
  have HB := hid ((Below.refl w.heap.size w).alloc (Nat.le_refl _) (.cells #[.slice a0 T.cs.length c0, .slice a1 T.ss.length c1, .slice a2 T.ct.length c2, .slice a3 T.st.length c3] 34))
  have HI := hid (spec_scanBits _ T ao cap L _ h0 h1 h2 h3 hn hs (HTV.out.below HB.out) (hv.below HB.out))
  rw [hR] at HI
  clear hv hs hR
  go_enter Try.func30, Try.ntmps30
  go_wp2_with fail
  refine HI.out.mono ?_
  generalize w.alloc (.cells #[.slice a0 T.cs.length c0, .slice a1 T.ss.length c1, .slice a2 T.ct.length c2, .slice a3 T.st.length c3] 34) = wa at *
  rintro e w1 ⟨v1, rfl, ho1, hb1⟩
  have B1 := hid (HB.out.trans (hb1.mono HB.out.size))
  obtain ⟨xo, xc, rfl⟩ := ho1.shape
  clear ho1 hb1 HI
  simp only [Option.isSome_none]
  go_wp2_with fail
  go_ret2
  exact ⟨rfl, B1.out⟩

/-- Both ScanText come to one text. -/
theorem both_scanText (T : Tb) (L : List (Int × List Int)) (h0 : T.cs.length ≤ 1048576) (h1 : T.ss.length ≤ 1048576) (h2 : T.ct.length ≤ 1048576) (h3 : T.st.length ≤ 1048576) (hn : L.length ≤ 1048576) (hs : ∀ j, j < L.length → (nth L j).2.length ≤ 1048576) : ∃ (u : ByteArray) (b : Bool),
    (∀ v ao cap w, TV w v T.cs T.ss T.ct T.st → BRow w ao L → Calls Try.prog 30 #[v, .slice ao L.length cap] w fun e w' => e = .returned (.tuple #[.string u, .bool b]) ∧ Below w.heap.size w w') ∧
    (∀ v ao cap w, TV w v T.cs T.ss T.ct T.st → BRow w ao L → Calls Try.prog 31 #[v, .slice ao L.length cap] w fun e w' => e = .returned (.tuple #[.string u, .bool b]) ∧ Below w.heap.size w w') := by
  have hlen := scanR_len T L
  cases hR : scanR T L with
  | none => exact ⟨⟨#[]⟩, false, fun v ao cap w ht hv => text_s_no v T ao cap L w h0 h1 h2 h3 hn hs ht hv hR, fun v ao cap w ht hv => text_i_no v T ao cap L w h0 h1 h2 h3 hn hs ht hv hR⟩
  | some r =>
    rw [hR] at hlen
    have hr : r.length ≤ 480000 := hlen
    obtain ⟨s, hsz, hp1, hp2⟩ := both_put r hr
    exact ⟨_, true, fun v ao cap w ht hv => text_s v T ao cap L w h0 h1 h2 h3 hn hs ht hv r s _ hR hr hp1 (fun w => spec_stuff s w hsz), fun v ao cap w ht hv => text_i v T ao cap L w h0 h1 h2 h3 hn hs ht hv r s _ hR hp2 (fun w => impl_stuff s w hsz)⟩

set_option maxRecDepth 100000 in
set_option maxHeartbeats 3200000 in
theorem law_text (a0 a1 a2 a3 : Option Addr) (c0 c1 c2 c3 : Nat) (T : Tb) (ao : Option Addr) (cap : Nat) (L : List (Int × List Int)) (w : World) (h0 : T.cs.length ≤ 9223372036854775807) (h1 : T.ss.length ≤ 9223372036854775807) (h2 : T.ct.length ≤ 9223372036854775807) (h3 : T.st.length ≤ 9223372036854775807)
    (hn : L.length ≤ 9223372036854775807) (hs : ∀ j, j < L.length → (nth L j).2.length ≤ 9223372036854775807) (ht : TV w (.agg #[.slice a0 T.cs.length c0, .slice a1 T.ss.length c1, .slice a2 T.ct.length c2, .slice a3 T.st.length c3]) T.cs T.ss T.ct T.st) (hv : BRow w ao L) :
    Calls Try.prog 7 #[.agg #[.slice a0 T.cs.length c0, .slice a1 T.ss.length c1, .slice a2 T.ct.length c2, .slice a3 T.st.length c3], .slice ao L.length cap] w fun e w' => e = .returned (.bool true) ∧ Below w.heap.size w w' := by
  have HB := hid ((Below.refl w.heap.size w).alloc (Nat.le_refl _) (.cells #[.slice a0 T.cs.length c0, .slice a1 T.ss.length c1, .slice a2 T.ct.length c2, .slice a3 T.st.length c3] 26))
  have HF := hid (Four.new w (.slice a0 T.cs.length c0) (.slice a1 T.ss.length c1) (.slice a2 T.ct.length c2) (.slice a3 T.st.length c3) 26)
  have HV := hid hv
  have HTV := hid ht
  have HS := hid hs
  have HZT := hid (fun q => szTables a0 a1 a2 a3 _ _ _ _ c0 c1 c2 c3 q h0 h1 h2 h3)
  clear hv ht hs
  go_enter Try.func7, Try.ntmps7
  go_wp2_with fail
  refine (HZT.out _).mono ?_
  generalize w.alloc (.cells #[.slice a0 T.cs.length c0, .slice a1 T.ss.length c1, .slice a2 T.ct.length c2, .slice a3 T.st.length c3] 26) = wa at *
  rintro e w1 ⟨r, rfl, hr, hb1⟩
  have B1 := hid (HB.out.trans (hb1.mono HB.out.size))
  have F1 := hid (HF.out.below hb1 HF.out.lt)
  clear hb1 HF HB
  rcases hr with ⟨hr0, ⟨k0, k1, k2, k3⟩, hr1⟩ | rfl
  · have hd : ¬ r < 0 := by omega
    go_wp2_with fail
    refine (szBlockSG r hr0 hr1 ao cap L w1 hn HS.out (HV.out.below B1.out)).mono ?_
    rintro e w2 ⟨r2, rfl, hr2, hb2⟩
    have B2 := hid (B1.out.trans (hb2.mono B1.out.size))
    have F2 := hid (F1.out.below hb2 F1.out.lt)
    clear hb2 F1
    by_cases hneg : r2 < 0
    · clear hr2
      go_wp2_with fail
      go_ret
      exact ⟨rfl, B2.out⟩
    · obtain ⟨hl, hall⟩ := hr2.resolve_left hneg
      have HALL := hid hall
      have HTO := hid (fun q (hq : Below w.heap.size w q) => toTables (.agg #[.slice a0 T.cs.length c0, .slice a1 T.ss.length c1, .slice a2 T.ct.length c2, .slice a3 T.st.length c3]) T.cs T.ss T.ct T.st q k0 k1 k2 k3 (HTV.out.below hq))
      have HTB := hid (fun q (hq : Below w.heap.size w q) => toBlockS ao cap L q hl hall (HV.out.below hq))
      obtain ⟨U, F, hsp, him⟩ := both_scanText T L k0 k1 k2 k3 hl hall
      have HSP := hid hsp
      have HIM := hid him
      clear hsp him
      have HEQ := hid (fun v v' q ht ht' => eqTables_same v v' T.cs T.ss T.ct T.st q k0 k1 k2 k3 ht ht')
      have hFF : (F != F) = false := by simp
      clear hr2 hall
      obtain ⟨q0, q1, q2, q3⟩ := F2.out.cells
      go_wp2_with fail
      refine (HTO.out _ B2.out).mono ?_
      rintro e w3 ⟨v3, rfl, ho3, hb3⟩
      have B3 := hid (B2.out.trans (hb3.mono B2.out.size))
      have F3 := hid (F2.out.below hb3 F2.out.lt)
      have HT3 := hid ho3.tv
      clear hb3 ho3 F2 q0 q1 q2 q3
      go_wp2_with fail
      refine (HTB.out _ B3.out).mono ?_
      rintro e w4 ⟨rfl, hbs4, hb4⟩
      have B4 := hid (B3.out.trans (hb4.mono B3.out.size))
      have F4 := hid (F3.out.below hb4 F3.out.lt)
      have HT4 := hid (HT3.out.below hb4)
      have HR4 := hid hbs4.brow
      clear hb4 hbs4 HT3 F3
      go_wp2_with fail
      refine (HSP.out _ _ _ _ HT4.out HR4.out).mono ?_
      rintro e w5 ⟨rfl, hb5⟩
      have B5 := hid (B4.out.trans (hb5.mono B4.out.size))
      have F5 := hid (F4.out.below hb5 F4.out.lt)
      clear hb5 HT4 HR4 F4
      obtain ⟨q0, q1, q2, q3⟩ := F5.out.cells
      go_wp2_with fail
      refine (HTO.out _ B5.out).mono ?_
      rintro e w6 ⟨v6, rfl, ho6, hb6⟩
      have HT6 := hid ho6.tv
      have B6 := hid (B5.out.trans (hb6.mono B5.out.size))
      have F6 := hid (F5.out.below hb6 F5.out.lt)
      obtain ⟨x0, d0, x1, d1, x2, d2, x3, d3, rfl, _⟩ := ho6
      have HBA := hid ((Below.refl w6.heap.size w6).alloc (Nat.le_refl _) (.cells #[.slice x0 T.cs.length d0, .slice x1 T.ss.length d1, .slice x2 T.ct.length d2, .slice x3 T.st.length d3] 34))
      have G6 := hid (Four.new w6 (.slice x0 T.cs.length d0) (.slice x1 T.ss.length d1) (.slice x2 T.ct.length d2) (.slice x3 T.st.length d3) 34)
      have B7 := hid (B6.out.trans (HBA.out.mono B6.out.size))
      have F7 := hid (F6.out.below HBA.out F6.out.lt)
      have HT7 := hid (HT6.out.below HBA.out)
      clear hb6 F5 F6 HT6 q0 q1 q2 q3
      go_wp2_with fail
      refine (HTB.out _ B7.out).mono ?_
      generalize w6.alloc (.cells #[.slice x0 T.cs.length d0, .slice x1 T.ss.length d1, .slice x2 T.ct.length d2, .slice x3 T.st.length d3] 34) = w7 at *
      rintro e w8 ⟨rfl, hbs8, hb8⟩
      have B8 := hid (B7.out.trans (hb8.mono B7.out.size))
      have F8 := hid (F7.out.below hb8 F7.out.lt)
      have G8 := hid (G6.out.below hb8 G6.out.lt)
      have HT8 := hid (HT7.out.below hb8)
      have HR8 := hid hbs8.brow
      clear hb8 hbs8 F7 G6 HT7 HBA
      obtain ⟨q0, q1, q2, q3⟩ := G8.out.cells
      go_wp2_with fail
      refine (HIM.out _ _ _ _ HT8.out HR8.out).mono ?_
      rintro e w9 ⟨rfl, hb9⟩
      have B9 := hid (B8.out.trans (hb9.mono B8.out.size))
      have F9 := hid (F8.out.below hb9 F8.out.lt)
      have G9 := hid (G8.out.below hb9 G8.out.lt)
      have HT9 := hid (HT8.out.below hb9)
      have HR9 := hid (HR8.out.below hb9)
      clear hb9 F8 G8 HT8 HR8 q0 q1 q2 q3
      obtain ⟨q0, q1, q2, q3⟩ := G9.out.cells
      obtain ⟨p0, p1, p2, p3⟩ := F9.out.cells
      have HFC := hid (fun q (hq : Below w9.heap.size w9 q) => (F9.out.below hq F9.out.lt).cells)
      have HGC := hid (fun q (hq : Below w9.heap.size w9 q) => (G9.out.below hq G9.out.lt).cells)
      go_wp2_with fail
      go_cut [52] from 48 to 57 (fun s wx => s = .bool false ∧ Below w9.heap.size w9 wx)
      case first =>
        go_region_held3 (fun q => (q.cell? ⟨w.heap.size, 0, none⟩ = some (.slice a0 T.cs.length c0) ∧ q.cell? ⟨w.heap.size, 1, none⟩ = some (.slice a1 T.ss.length c1) ∧ q.cell? ⟨w.heap.size, 2, none⟩ = some (.slice a2 T.ct.length c2) ∧ q.cell? ⟨w.heap.size, 3, none⟩ = some (.slice a3 T.st.length c3)) ∧ q.cell? ⟨w6.heap.size, 0, none⟩ = some (.slice x0 T.cs.length d0) ∧ q.cell? ⟨w6.heap.size, 1, none⟩ = some (.slice x1 T.ss.length d1) ∧ q.cell? ⟨w6.heap.size, 2, none⟩ = some (.slice x2 T.ct.length d2) ∧ q.cell? ⟨w6.heap.size, 3, none⟩ = some (.slice x3 T.st.length d3)) (go_keep) (first
          | (go_at_call 12; refine (HTO.out _ ?_).mono ?_; · first | exact B9.out | exact B9.out.trans ((Below.refl _ _).drew.mono B9.out.size)
             rintro e w10 ⟨v10, rfl, ho10, hb10⟩
             have hcA : Below w9.heap.size w9 w10 := by first | exact hb10 | exact Below.trans (Below.refl _ _).drew hb10
             have hv10 := ho10.tv
             obtain ⟨z0, e0, z1, e1, z2, e2, z3, e3, rfl, _⟩ := ho10
             obtain ⟨g0, g1, g2, g3⟩ := HFC.out _ hcA
             obtain ⟨t0, t1, t2, t3⟩ := HGC.out _ hcA)
          | (go_at_call 16; refine (HEQ.out _ _ _ ?_ ?_).mono ?_; · first | exact HT9.out.below hcA | exact (HT9.out.below hcA).below (Below.refl _ _).drew
             · first | exact hv10 | exact hv10.below (Below.refl _ _).drew
             rintro e w11 ⟨rfl, hb11⟩
             have hcB : Below w9.heap.size w9 w11 := by first | exact hcA.trans (hb11.mono hcA.size) | exact hcA.trans ((Below.trans (Below.refl _ _).drew hb11).mono hcA.size)
             obtain ⟨g0', g1', g2', g3'⟩ := HFC.out _ hcB
             obtain ⟨t0', t1', t2', t3'⟩ := HGC.out _ hcB))
        all_goals
          go_wp2_with fail
          go_meet
          exact ⟨rfl, hcB⟩
      case rest =>
        obtain ⟨rfl, hb10⟩ := hcut
        generalize hwc : wc = w10 at *
        clear hwc
        have B10 := hid (B9.out.trans (hb10.mono B9.out.size))
        have HR10 := hid (HR9.out.below hb10)
        clear hb10 HR9 q0 q1 q2 q3 p0 p1 p2 p3
        go_wp2_with fail
        refine (HTB.out _ B10.out).mono ?_
        rintro e w12 ⟨rfl, hbs12, hb12⟩
        have B12 := hid (B10.out.trans (hb12.mono B10.out.size))
        have HR12 := hid (HR10.out.below hb12)
        have HX12 := hid hbs12.brow
        clear hb12 hbs12 HR10
        go_wp2_with fail
        refine (eqBlockS_same _ _ _ _ L w12 hl HALL.out HR12.out HX12.out).mono ?_
        rintro e w13 ⟨rfl, hb13⟩
        have B13 := hid (B12.out.trans (hb13.mono B12.out.size))
        clear hb13
        go_wp2_with fail
        go_ret
        exact ⟨rfl, B13.out⟩
  · go_wp2_with fail
    go_ret
    exact ⟨rfl, B1.out⟩
end Go.Proofs.Ytcikmgdfelejpaa
