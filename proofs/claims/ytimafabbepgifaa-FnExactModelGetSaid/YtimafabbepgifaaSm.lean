/- The contract of the specification's writer of a number: l07Put. -/
import Derived.Test.YtimafabbepgifaaPw
import Derived.Test.YtimafabbepgifaaCm
import Derived.Test.YtimafabbepgifaaNl
import Derived.Test.YtimafabbepgifaaXa
import Derived.Deep.CutRange
namespace Go.Proofs.Ytimafabbepgifaa
open Go.RowKit
set_option linter.unusedVariables false

theorem strOf_snoc (s : ByteArray) (a b : List Int) : s ++ strOfNums a ++ strOfNums b = s ++ strOfNums (a ++ b) := by
  rw [strOf_app, ByteArray.append_assoc]

theorem Ef.setNew {C B : Nat} {w q : World} (h : Ef C w q) (hB : w.heap.size ≤ B) (j : Nat) (u : Value) : Ef C w (q.setCell ⟨B, j, none⟩ u) :=
  ⟨h.os, h.tape, h.output, by simpa using h.size, fun k hk hne => (heap_setCell_other q ⟨B, j, none⟩ k u (Nat.ne_of_lt (Nat.lt_of_lt_of_le hk hB))).trans (h.block k hk hne)⟩

set_option maxRecDepth 100000 in
set_option maxHeartbeats 3200000 in
theorem spec_putNum (g cap N B : Nat) (x : Int) (lo hi : Int) (s : ByteArray) (ch : List Int) (w : World) (hx0 : -9223372036854775808 ≤ x) (hx1 : x ≤ 9223372036854775807) (hN : N ≤ 1200) (hB : B + 24 ≤ N) (hs : s.size ≤ 59800) (hok : PsOk N 0 ⟨lo, hi, [], ch⟩) (hC : Nums cap w g ch) :
    Calls Try.prog 53 #[cV lo hi s, .agg #[.slice (some ⟨g, 0, none⟩) N cap], .int .i64 B, .int .i64 x] w fun e w' => e = .returned (cV (putTo B (planP x) ⟨lo, hi, [], ch⟩ (planP x).length).lo (putTo B (planP x) ⟨lo, hi, [], ch⟩ (planP x).length).hi (s ++ strOfNums (putTo B (planP x) ⟨lo, hi, [], ch⟩ (planP x).length).o)) ∧ Nums cap w' g (putTo B (planP x) ⟨lo, hi, [], ch⟩ (planP x).length).ch ∧ Ef g w w' := by
  have HNP := hid (fun q => spec_numPlan x q hx0 hx1)
  have HOK := hid (fun k hk => putTo_ok (x := x) hok hB k hk)
  have HWP := hid (fun i hi => walk_part x i hi)
  have HBI := hid (plan_bits x)
  have HC := hid hC
  have hpl := planP_len23 x
  generalize planP x = P at *
  obtain ⟨ST0, hST0⟩ : ∃ S : PS, S = ⟨lo, hi, [], ch⟩ := ⟨_, rfl⟩
  rw [← hST0] at HOK ⊢
  obtain ⟨Z, hZ⟩ : ∃ Z, putTo B P ST0 P.length = Z := ⟨_, rfl⟩
  have HZ := hid hZ
  have HS0 := hid hST0
  rw [hZ]
  clear hZ hC hx0 hx1 hok hST0
  unfold cV
  obtain ⟨n0, n1, n2, n4⟩ := new_three w [.int .u32 lo, .int .u32 hi, .string s] [.slice (some ⟨g, 0, none⟩) N cap] [.int .u32 0, .int .u32 0, .string ⟨#[]⟩] 32 27 32
  have N0 := hid n0
  have N1 := hid n1
  have N2 := hid n2
  have N4 := hid n4
  clear n0 n1 n2 n4
  go_enter Try.func53, Try.ntmps53
  go_wp2_with fail
  refine (HNP.out _).mono ?_
  generalize ((w.alloc (.cells #[.int .u32 lo, .int .u32 hi, .string s] 32)).alloc (.cells #[.slice (some ⟨g, 0, none⟩) N cap] 27)).alloc (.cells #[.int .u32 0, .int .u32 0, .string ⟨#[]⟩] 32) = w0 at *
  rintro e w1 ⟨pv, rfl, hop, hb1⟩
  have hw0 : w.heap.size + 1 + 1 < w0.heap.size := N2.out.lt
  have hglt := hid HC.out.lt
  obtain ⟨ao, pc, rfl⟩ := hop.shape
  have HPL : Hid (∀ k, k ≤ P.length → 0 < P.length → ∃ pg pcl, ao = some ⟨pg, 0, none⟩ ∧ w.heap.size + 1 + 1 < pg ∧ Nums pcl w1 pg P ∧ P.length ≤ pc) := fun k hk hk0 => by
    rcases hop.2.2 with ⟨e2, h0⟩ | ⟨pg, cap', cur, e2, hg, _, hle, _⟩
    · omega
    · simp only [Value.slice.injEq] at e2
      obtain ⟨rfl, _, rfl⟩ := e2
      exact ⟨pg, _, rfl, by omega, hop.nums, hle⟩
  have M0 := hid (N0.out.below hb1 N0.out.lt)
  have M1 := hid (N1.out.below hb1 N1.out.lt)
  have M2 := hid (N2.out.below hb1 N2.out.lt)
  have M4 := hid (N4.out.trans (hb1.mono N4.out.size))
  have MC : Hid (Nums cap w1 g ch) := HC.out.kept (fun l hl => hl.below M4.out hl.lt)
  clear hop hb1 N0 N1 N2 N4 HNP HC hw0
  go_wp2_with fail
  go_loopw [10] (fun i wr => ∃ (k : Nat), k ≤ P.length ∧ i = .int .i64 k ∧ Blk wr w.heap.size [.int .u32 (putTo B P ST0 k).lo, .int .u32 (putTo B P ST0 k).hi, .string (s ++ strOfNums (putTo B P ST0 k).o)] 32 ∧ Blk wr (w.heap.size + 1) [.slice (some ⟨g, 0, none⟩) N cap] 27 ∧ Blk wr (w.heap.size + 1 + 1) [.int .u32 0, .int .u32 0, .string ⟨#[]⟩] 32 ∧ Nums cap wr g (putTo B P ST0 k).ch ∧ Hid (∀ k, k ≤ P.length → 0 < P.length → ∃ pg pcl, ao = some ⟨pg, 0, none⟩ ∧ w.heap.size + 1 + 1 < pg ∧ Nums pcl wr pg P ∧ P.length ≤ pc) ∧ Ef g w wr) (fun i _ => P.length - (intOf i).toNat)
  case atStart =>
    refine ⟨0, by omega, rfl, ?_, M1.out, M2.out, ?_, HPL.out, Ef.ofBelow M4.out⟩
    · have e0 : s ++ strOfNums [] = s := by
        obtain ⟨d⟩ := s
        apply ByteArray.ext
        simp [strOfNums]
      rw [putTo, HS0.out, e0]
      exact M0.out
    · rw [putTo, HS0.out]
      exact MC.out
  case round =>
    obtain ⟨k, hk, rfl, h0, h1, h2, hC, hPL, hE⟩ := hrel
    clear M0 M1 M2 M4 MC HPL
    have H0 := hid h0
    have H1 := hid h1
    have H2 := hid h2
    have HCr := hid hC
    have HEr := hid hE
    have HOKk := hid (HOK.out k hk)
    clear h0 h1 h2 hC hE
    by_cases hlt2 : k < P.length
    · have hlt' : (k : Int) < (P.length : Int) := by omega
      obtain ⟨pg, pcl, rfl, hpg, hPN, hpc⟩ := hPL.out k hk (by omega)
      obtain ⟨s', es, ho', h4, hsl, hs0, hs23⟩ := HWP.out k hlt2
      obtain ⟨T, hT⟩ : ∃ T : Nat, wkSlot s' = (T : Int) := ⟨(wkSlot s').toNat, by omega⟩
      have hbit : isBi (P.getD k 0) = true := by
        rw [List.getD_eq_getElem?_getD, List.getElem?_eq_getElem hlt2]
        exact HBI.out _ (List.getElem_mem _)
      have hbt := (isBi_iff _).1 hbit
      have HST : Hid (putTo B P ST0 (k + 1) = stepP B (putTo B P ST0 k) (T : Int) (P.getD k 0)) := by
        show _ = _
        rw [putTo, ← hsl, hT]
      have HNS : Hid (∀ q, Nums pcl q pg P → Calls Try.prog 75 #[.slice (some ⟨pg, 0, none⟩) k pc] q fun e w' => e = .returned (.int .i64 (T : Int)) ∧ ∃ n, w' = q.drewN n) := fun q hq => by
        have hl : (P.take k).length = k := by rw [List.length_take]; omega
        have := spec_nextSlot (.slice (some ⟨pg, 0, none⟩) k pc) (P.take k) q (by omega) ⟨some ⟨pg, 0, none⟩, pc, by rw [hl], ⟨rfl, fun i hi => ⟨pg, 0, rfl, by
          rw [hl] at hi
          rw [Nat.zero_add, hq.cell i (by omega), List.getD_eq_getElem?_getD, List.getD_eq_getElem?_getD, List.getElem?_take, if_pos hi]⟩⟩, by omega⟩
        rw [← hsl, hT] at this
        rw [show max (-1 : Int) (T : Int) = (T : Int) by omega] at this
        exact this
      obtain ⟨I, hI⟩ : ∃ I, B + T = I := ⟨_, rfl⟩
      have hBT : (B : Int) + (T : Int) = (I : Int) := by omega
      have hIN : (I : Int) < (N : Int) := by omega
      have hI0 : (0 : Int) ≤ (I : Int) := by omega
      have hIW : IntKind.i64.wrap (I : Int) = (I : Int) := by rw [IntKind.wrap_i64]; omega
      have hIN2 : I < N := by omega
      have hchl : Hid ((putTo B P ST0 k).ch.length = N) := HOKk.out.ln
      have hpch := HOKk.out.at hIN2
      have hssz : (s ++ strOfNums (putTo B P ST0 k).o).size < 60000 := by
        have h1 := HOKk.out.ol
        rw [ByteArray.size_append, strOf_size]
        omega
      have HCP := hid (fun q => spec_put (putTo B P ST0 k).lo (putTo B P ST0 k).hi (s ++ strOfNums (putTo B P ST0 k).o) (P.getD k 0) ((putTo B P ST0 k).ch.getD I 0) q HOKk.out.wl HOKk.out.wh (by omega))
      rw [cRes_room hbt hpch hssz, strOf_snoc] at HCP
      generalize hST1 : putTo B P ST0 (k + 1) = ST1 at *
      have HE1 := hid hST1
      clear hST1
      have HS1 : Hid (ST1.lo = (pPut (putTo B P ST0 k).lo (putTo B P ST0 k).hi (P.getD k 0) ((putTo B P ST0 k).ch.getD I 0)).2.1 ∧ ST1.hi = (pPut (putTo B P ST0 k).lo (putTo B P ST0 k).hi (P.getD k 0) ((putTo B P ST0 k).ch.getD I 0)).2.2 ∧ ST1.o = (putTo B P ST0 k).o ++ (pPut (putTo B P ST0 k).lo (putTo B P ST0 k).hi (P.getD k 0) ((putTo B P ST0 k).ch.getD I 0)).1 ∧ ST1.ch = (putTo B P ST0 k).ch.set I (lrn ((putTo B P ST0 k).ch.getD I 0) (P.getD k 0))) := by
        have := HST.out
        rw [this, ← hI]
        refine ⟨?_, ?_, ?_, ?_⟩ <;> simp [stepP]
      rw [← HS1.out.1, ← HS1.out.2.1, ← HS1.out.2.2.1] at HCP
      have HCH : Hid (ST1.ch = (putTo B P ST0 k).ch.set I (lrn ((putTo B P ST0 k).ch.getD I 0) (P.getD k 0))) := HS1.out.2.2.2
      have CIr := HCr.out.cell I (by rw [hchl.out]; exact hIN2)
      have CKr := hPN.cell k hlt2
      generalize putTo B P ST0 k = ST at *
      generalize ST.ch.getD I 0 = Y at *
      generalize P.getD k 0 = X at *
      have HPN := hid hPN
      have CI := hid CIr
      have CK := hid CKr
      unfold cV at HCP
      clear HST hs0 hs23 hsl hT ho' h4 es hbit hI HS1 hPN CIr CKr hpch hssz
      go_wp2_with fail
      refine (HNS.out wr HPN.out).mono ?_
      rintro e wq ⟨rfl, n, rfl⟩
      have D1 := hid (below_drewN wr n)
      have J0 := hid (H0.out.below D1.out H0.out.lt)
      have J1 := hid (H1.out.below D1.out H1.out.lt)
      have J2 := hid (H2.out.below D1.out H2.out.lt)
      have JC := hid (HCr.out.kept (fun l hl => hl.below D1.out hl.lt))
      have JP := hid (HPN.out.kept (fun l hl => hl.below D1.out hl.lt))
      have JE := hid (HEr.out.drewN n)
      have ci : (wr.drewN n).cell? ⟨g, I, none⟩ = some (.int .i64 Y) := CI.out
      have ck : (wr.drewN n).cell? ⟨pg, k, none⟩ = some (.int .i64 X) := CK.out
      clear D1 H0 H1 H2 HCr HPN HEr CI CK
      generalize wr.drewN n = wq at *
      have c0 := J0.out.cell (i := 0) rfl
      have c1 := J0.out.cell (i := 1) rfl
      have c2 := J0.out.cell (i := 2) rfl
      have m0 := J1.out.cell (i := 0) rfl
      go_wp2_with fail
      have D2 := hid (below_drewN wq 1)
      have hwg : g ≠ w.heap.size := Nat.ne_of_lt hglt.out
      have hpgn : pg ≠ w.heap.size := by omega
      have hn2 : w.heap.size + 1 + 1 ≠ w.heap.size := by omega
      go_cut [10] from 26 to 36 (fun p wx => p = .int .i64 k ∧ Blk wx w.heap.size [.int .u32 ST1.lo, .int .u32 ST1.hi, .string (s ++ strOfNums ST1.o)] 32 ∧ Blk wx (w.heap.size + 1) [.slice (some ⟨g, 0, none⟩) N cap] 27 ∧ Blk wx (w.heap.size + 1 + 1) [.int .u32 0, .int .u32 0, .string ⟨#[]⟩] 32 ∧ Nums cap wx g ST.ch ∧ Nums pcl wx pg P ∧ Ef g w wx)
      case first =>
        go_region_with (go_at_call 76; refine (HCP.out wq.drew).mono ?_; rintro e w3 ⟨rfl, hb3⟩; have E3 := hid (D2.out.trans hb3); have L0 := hid (J0.out.below E3.out J0.out.lt); have l0 := L0.out.cell (i := 0) rfl; have l1 := L0.out.cell (i := 1) rfl; have l2 := L0.out.cell (i := 2) rfl; have f0 := L0.out.free 0; have f1 := L0.out.free 1; have f2 := L0.out.free 2)
        all_goals
          go_wp2_with fail
          go_meet
          have L1 := hid (J1.out.below E3.out J1.out.lt)
          have L2 := hid (J2.out.below E3.out J2.out.lt)
          have LC := hid (JC.out.kept (fun l hl => hl.below E3.out hl.lt))
          have LP := hid (JP.out.kept (fun l hl => hl.below E3.out hl.lt))
          have LE := hid (JE.out.trans (Ef.ofBelow E3.out))
          have Q0 := hid (((L0.out.set 0 (.int .u32 ST1.lo)).set 1 (.int .u32 ST1.hi)).set 2 (.string (s ++ strOfNums ST1.o)))
          have Q1 := hid (((L1.out.other (a := ⟨w.heap.size, 0, none⟩) (Nat.succ_ne_self _) (.int .u32 ST1.lo)).other (a := ⟨w.heap.size, 1, none⟩) (Nat.succ_ne_self _) (.int .u32 ST1.hi)).other (a := ⟨w.heap.size, 2, none⟩) (Nat.succ_ne_self _) (.string (s ++ strOfNums ST1.o)))
          have Q2 := hid (((L2.out.other (a := ⟨w.heap.size, 0, none⟩) hn2 (.int .u32 ST1.lo)).other (a := ⟨w.heap.size, 1, none⟩) hn2 (.int .u32 ST1.hi)).other (a := ⟨w.heap.size, 2, none⟩) hn2 (.string (s ++ strOfNums ST1.o)))
          have QC := hid (LC.out.kept (fun l hl => ((hl.other (a := ⟨w.heap.size, 0, none⟩) hwg (.int .u32 ST1.lo)).other (a := ⟨w.heap.size, 1, none⟩) hwg (.int .u32 ST1.hi)).other (a := ⟨w.heap.size, 2, none⟩) hwg (.string (s ++ strOfNums ST1.o))))
          have QP := hid (LP.out.kept (fun l hl => ((hl.other (a := ⟨w.heap.size, 0, none⟩) hpgn (.int .u32 ST1.lo)).other (a := ⟨w.heap.size, 1, none⟩) hpgn (.int .u32 ST1.hi)).other (a := ⟨w.heap.size, 2, none⟩) hpgn (.string (s ++ strOfNums ST1.o))))
          have QE := hid (((LE.out.setNew (B := w.heap.size) (Nat.le_refl _) 0 (.int .u32 ST1.lo)).setNew (B := w.heap.size) (Nat.le_refl _) 1 (.int .u32 ST1.hi)).setNew (B := w.heap.size) (Nat.le_refl _) 2 (.string (s ++ strOfNums ST1.o)))
          exact ⟨rfl, Q0.out, Q1.out, Q2.out, QC.out, QP.out, QE.out⟩
      case rest =>
        obtain ⟨rfl, q0, q1, q2, qC, qP, qE⟩ := hcut
        have Q0 := hid q0
        have Q1 := hid q1
        have Q2 := hid q2
        have QC := hid qC
        have QP := hid qP
        have QE := hid qE
        have m9 := q1.cell (i := 0) rfl
        have ci9 : wc.cell? ⟨g, I, none⟩ = some (.int .i64 Y) := by
          have h1 := qC.cell I (by rw [hchl.out]; exact hIN2)
          have h2 := JC.out.cell I (by rw [hchl.out]; exact hIN2)
          rw [ci] at h2
          rw [h1, ← h2]
        have ck9 : wc.cell? ⟨pg, k, none⟩ = some (.int .i64 X) := by
          have h1 := qP.cell k hlt2
          have h2 := JP.out.cell k hlt2
          rw [ck] at h2
          rw [h1, ← h2]
        have fi9 := qC.free I
        clear q0 q1 q2 qC qP qE D2 J0 J1 J2 JC JP JE c0 c1 c2 m0 ci ck HCP HNS
        have hwg1 : w.heap.size + 1 ≠ g := by have := hglt.out; omega
        have hwg2 : w.heap.size + 1 + 1 ≠ g := by have := hglt.out; omega
        have hpgg : pg ≠ g := by have := hglt.out; omega
        have R0 : Hid (Blk (wc.setCell ⟨g, I, none⟩ (.int .i64 (lrn Y X))).drew w.heap.size [.int .u32 ST1.lo, .int .u32 ST1.hi, .string (s ++ strOfNums ST1.o)] 32) := Q0.out.other (a := ⟨g, I, none⟩) (fun e => hwg e.symm) _
        have R1 : Hid (Blk (wc.setCell ⟨g, I, none⟩ (.int .i64 (lrn Y X))).drew (w.heap.size + 1) [.slice (some ⟨g, 0, none⟩) N cap] 27) := Q1.out.other (a := ⟨g, I, none⟩) hwg1 _
        have R2 : Hid (Blk (wc.setCell ⟨g, I, none⟩ (.int .i64 (lrn Y X))).drew (w.heap.size + 1 + 1) [.int .u32 0, .int .u32 0, .string ⟨#[]⟩] 32) := Q2.out.other (a := ⟨g, I, none⟩) hwg2 _
        have RC : Hid (Nums cap (wc.setCell ⟨g, I, none⟩ (.int .i64 (lrn Y X))).drew g ST1.ch) := by
          rw [HCH.out]
          exact QC.out.set I _
        have RP : Hid (Nums pcl (wc.setCell ⟨g, I, none⟩ (.int .i64 (lrn Y X))).drew pg P) := QP.out.kept (fun l hl => hl.other (a := ⟨g, I, none⟩) hpgg _)
        have RE : Hid (Ef g w (wc.setCell ⟨g, I, none⟩ (.int .i64 (lrn Y X))).drew) := (QE.out.trans (Ef.set wc I _)).drewN 1
        clear Q0 Q1 Q2 QC QP QE
        go_wp2_with fail
        go_region_with (go_at_call 77; refine (spec_learn _ _ _).mono ?_; rintro e wz ⟨rfl, rfl⟩)
        all_goals
          clear m9 ci9 ck9 fi9
          generalize (wc.setCell ⟨g, I, none⟩ (.int .i64 (lrn Y X))).drew = wz at *
          go_wp2_with fail
          go_roundw
          case rel => exact ⟨k + 1, by omega, by go_num, by rw [HE1.out]; exact R0.out, R1.out, R2.out, by rw [HE1.out]; exact RC.out, fun _ _ _ => ⟨pg, pcl, rfl, hpg, RP.out, hpc⟩, RE.out⟩
          case measure => simp [intOf]; omega
    · obtain rfl : k = P.length := by omega
      have HZ2 := hid HZ.out
      rw [HZ2.out] at H0 HCr
      have c0 := H0.out.cell (i := 0) rfl
      have c1 := H0.out.cell (i := 1) rfl
      have c2 := H0.out.cell (i := 2) rfl
      have r0 := H2.out.cell (i := 0) rfl
      have r1 := H2.out.cell (i := 1) rfl
      have r2 := H2.out.cell (i := 2) rfl
      have y0 := H2.out.free 0
      have y1 := H2.out.free 1
      have y2 := H2.out.free 2
      clear hlt2 hk
      go_wp2_with fail
      refine bodyPost_ret (v := .agg #[.int .u32 Z.lo, .int .u32 Z.hi, .string (s ++ strOfNums Z.o)]) (by simp [results, Try.results53, go_sem, r0, r1, r2]) rfl ?_
      have hgn : g ≠ w.heap.size + 1 + 1 := by have := hglt.out; omega
      refine ⟨rfl, ?_, ?_⟩
      · exact HCr.out.kept (fun l hl => ((hl.other (a := ⟨w.heap.size + 1 + 1, 0, none⟩) hgn _).other (a := ⟨w.heap.size + 1 + 1, 1, none⟩) hgn _).other (a := ⟨w.heap.size + 1 + 1, 2, none⟩) hgn _)
      · exact ((HEr.out.setNew (B := w.heap.size + 1 + 1) (by omega) 0 _).setNew (B := w.heap.size + 1 + 1) (by omega) 1 _).setNew (B := w.heap.size + 1 + 1) (by omega) 2 _
end Go.Proofs.Ytimafabbepgifaa
