/- A block out of a square, of the program. -/
import Derived.Test.YtcodmkampihphaaDoorSb
import Derived.Deep.CutRange
namespace Go.Proofs.YtcodmkampihphaaDoor
open Go.RowKit
set_option linter.unusedVariables false

/-- The numbers behind Dc of a square, the first k of them. -/
def acTo (S : List Int) : Nat → List Int
  | 0 => []
  | k + 1 => acTo S k ++ [S.getD (zt.getD (k + 1) 0).toNat 0]
theorem acTo_len (S : List Int) : ∀ k, (acTo S k).length = k
  | 0 => rfl
  | k + 1 => by rw [acTo, List.length_append, acTo_len S k]; rfl
/-- The same with zeros behind. -/
def acZ (S : List Int) (k : Nat) : List Int := acTo S k ++ List.replicate (63 - k) 0
theorem acZ_len (S : List Int) (k : Nat) (h : k ≤ 63) : (acZ S k).length = 63 := by
  unfold acZ
  rw [List.length_append, acTo_len, List.length_replicate]
  omega
theorem acZ_63 (S : List Int) : acZ S 63 = acTo S 63 := by unfold acZ; simp
theorem acZ_set (S : List Int) (k : Nat) (h : k < 63) : (acZ S k).set k (S.getD (zt.getD (k + 1) 0).toNat 0) = acZ S (k + 1) := by
  unfold acZ
  rw [List.set_append_right _ _ (by rw [acTo_len]; exact Nat.le_refl _), acTo_len, Nat.sub_self]
  obtain ⟨m, hm⟩ : ∃ m, 63 - k = m + 1 := ⟨62 - k, by omega⟩
  rw [hm, show 63 - (k + 1) = m by omega, List.replicate_succ, List.set_cons_zero, acTo, List.append_assoc]
  rfl
def z63 : List Int := List.replicate 63 0
theorem make63 (w : World) : (Instr.makeSlice 26 (.int .i64 63) (.int .i64 63)).run Tryd.prog w = .ok (.slice (some ⟨w.heap.size, 0, none⟩) 63 63) (w.alloc (.cells (ivs z63).toArray 3)) := by kernel_rfl

theorem blk_own {w : World} {base G : Nat} {L : List Int} (h : Blk w G (ivs L) 3) (hb : base ≤ G) (hm : L.length ≤ 1000000) : Own w base 3 .i64 (.slice (some ⟨G, 0, none⟩) L.length L.length) L := by
  have hlt := h.lt
  refine ⟨by omega, by simp, .inr ⟨G, L.length, (ivs L).toArray, rfl, hb, h, Nat.le_refl _, by unfold maxLen; omega, by simp [ivs_len], ?_⟩⟩
  simp [ivs, ← List.map_take]

set_option maxRecDepth 20000 in
set_option maxHeartbeats 800000 in
theorem impl_block (S : List Int) (hS : S.length = 64) (w : World) (hw : WayAt w) :
    Calls Tryd.prog 32 #[.agg (ivs S).toArray] w fun e w' => ∃ v, e = .returned v ∧ BOwn w' w.heap.size v (S.getD 0 0) (acTo S 63) ∧ Below w.heap.size w w' := by
  have HW := hid hw
  have HL := hid hS
  clear hw hS
  have HM := fun w => make63 w
  have q0 := ivs_get S 0 (by rw [HL.out]; decide)
  generalize hd : S.getD 0 0 = d at *
  have HD := hid hd
  clear hd
  go_enter Tryd.func32, Tryd.ntmps32
  go_upto_region 1 with fail
  have HB0 := hid (((Below.refl w.heap.size w).alloc (Nat.le_refl _) (.cells (ivs S).toArray 52)).alloc (by simp) (.cells #[.int .i64 0, .slice none 0 0] 28))
  have HR0 := hid (Blk.newG (w := w.alloc (.cells (ivs S).toArray 52)) (g := w.heap.size + 1) (by simp) [.int .i64 0, .slice none 0 0] 28)
  have HS0 := hid ((Blk.new w (ivs S) 52).alloc (.cells #[.int .i64 0, .slice none 0 0] 28))
  have hsz : ((w.alloc (.cells (ivs S).toArray 52)).alloc (.cells #[.int .i64 0, .slice none 0 0] 28)).heap.size = w.heap.size + 1 + 1 := by simp
  have HC0 := hid (fun q (hq : Below (w.heap.size + 1 + 1) ((w.alloc (.cells (ivs S).toArray 52)).alloc (.cells #[.int .i64 0, .slice none 0 0] 28)) q) => hq)
  go_cut [3] from 5 to 26 (fun p wx => ∃ Nb G, p = .pointer (some ⟨Nb, 0, none⟩) ∧ Blk wx Nb [.int .i64 d, .slice (some ⟨G, 0, none⟩) 63 63] 28 ∧ Blk wx G (ivs z63) 3 ∧ w.heap.size + 1 + 1 ≤ Nb ∧ w.heap.size + 1 + 1 ≤ G ∧ Below (w.heap.size + 1 + 1) ((w.alloc (.cells (ivs S).toArray 52)).alloc (.cells #[.int .i64 0, .slice none 0 0] 28)) wx)
  case first =>
    go_region
    all_goals go_wp2_with fail
    all_goals go_meet
    · refine ⟨_, _, rfl, (Blk.newG (by simp) [.int .i64 d, .slice (some ⟨w.heap.size + 1 + 1, 0, none⟩) 63 63] 28).drew 1, ((Blk.newG (by simp) (ivs z63) 3).alloc _).drew 1, by omega, by omega, ?_⟩
      exact belowN (((Below.refl _ _).alloc (by simp) _).alloc (by simp) _) 1
    · refine ⟨_, _, rfl, ((Blk.newG (by simp) [.int .i64 d, .slice (some ⟨w.heap.size + 1 + 1 + 1, 0, none⟩) 63 63] 28).alloc _).drew 1, (Blk.newG (by simp) (ivs z63) 3).drew 1, by omega, by omega, ?_⟩
      exact belowN (((Below.refl _ _).alloc (by simp) _).alloc (by simp) _) 1
  case rest =>
    obtain ⟨Nb, G, rfl, hN, hG, n0, g0, hb⟩ := hcut
    rename World => wc
    have HN := hid hN
    have HG := hid hG
    have HS := hid (HS0.out.below hb (by omega))
    have HR := hid (HR0.out.below hb (by omega))
    have HB := hid (HB0.out.trans (hb.mono (by omega)))
    have hNG : Nb ≠ G := by
      intro e
      subst e
      have := (Option.some.inj (hN.symm.trans hG))
      cases this
    clear hN hG hb HS0 HR0 HB0 HC0 hsz q0 HM
    have c1 : wc.cell? ⟨Nb, 1, none⟩ = some (.slice (some ⟨G, 0, none⟩) 63 63) := HN.out.cell rfl
    have hz63 : Hid (acZ S 0 = z63) := rfl
    go_wp2_with fail
    go_loopw [12] (fun i wr => ∃ k : Nat, k ≤ 63 ∧ i = .int .i64 k ∧ Hid (Blk wr G (ivs (acZ S k)) 3) ∧ Hid (Ef G wc wr)) (fun i _ => 63 - (intOf i).toNat)
    case atStart => exact ⟨0, by omega, rfl, HG.out, Ef.refl _ _⟩
    case round =>
      obtain ⟨k, hk, rfl, hD, hE⟩ := hrel
      by_cases hlt : k < 63
      · have hlt' : (k : Int) < 63 := by omega
        have h0 : (0 : Nat) < w.heap.size := World.block_lt_of_cell? w _ (HW.out.cell 0 (by decide))
        have hz := (((hE.out.below (B := w.heap.size) (by omega) HB.out.size)).cell (p := ⟨0, k + 1, none⟩) h0).trans ((HB.out.cell (p := ⟨0, k + 1, none⟩) h0).trans (HW.out.cell (k + 1) (by omega)))
        obtain ⟨z0, z1⟩ := zt_nat (k + 1) (by omega)
        have hr1 : wr.cell? ⟨Nb, 1, none⟩ = some (.slice (some ⟨G, 0, none⟩) 63 63) := (HN.out.ef hE.out hNG).cell rfl
        have hr2 := (HS.out.ef hE.out (by omega)).cell (ivs_get S (zt.getD (k + 1) 0).toNat (by rw [HL.out]; omega))
        have hcl := hD.out.cell (ivs_get (acZ S k) k (by rw [acZ_len S k hk]; omega))
        have hfr := hD.out.free k
        have HSt := hid (acZ_set S k hlt)
        have jk : IntKind.i64.wrap (k : Int) = (k : Int) := by rw [IntKind.wrap_i64]; omega
        have jk1 : IntKind.i64.wrap ((k : Int) + 1) = (k : Int) + 1 := by rw [IntKind.wrap_i64]; omega
        generalize zt.getD (k + 1) 0 = X at *
        have jx : IntKind.i64.wrap X = X := by rw [IntKind.wrap_i64]; omega
        generalize S.getD X.toNat 0 = Y at *
        generalize (acZ S k).getD k 0 = Y0 at *
        go_wp2_with fail
        go_region
        all_goals
          go_wp2_with fail
          go_roundw
          case rel => exact ⟨k + 1, by omega, by go_num, by rw [← HSt.out, ← ivs_set]; exact (hD.out.drew 1).set _ _, (hE.out.drewN 1).trans (Ef.set _ _ _)⟩
          case measure => simp [intOf]; omega
      · obtain rfl : k = 63 := by omega
        have e63 := acZ_63 S
        rw [e63] at hD
        have hNr := hid (HN.out.ef hE.out hNG)
        have r0 : wr.cell? ⟨Nb, 0, none⟩ = some (.int .i64 d) := hNr.out.cell rfl
        have r1 : wr.cell? ⟨Nb, 1, none⟩ = some (.slice (some ⟨G, 0, none⟩) 63 63) := hNr.out.cell rfl
        have hRr := HR.out.ef hE.out (by omega)
        have s0 : wr.cell? ⟨w.heap.size + 1, 0, none⟩ = some (.int .i64 0) := hRr.cell rfl
        have s1 : wr.cell? ⟨w.heap.size + 1, 1, none⟩ = some (.slice none 0 0) := hRr.cell rfl
        have f0 := hRr.free 0
        have f1 := hRr.free 1
        have hBr := hid (HB.out.trans (hE.out.below (B := w.heap.size) (by omega) HB.out.size))
        have hO := hid (fun u v => ((hD.out.other (a := ⟨w.heap.size + 1, 0, none⟩) (by show G ≠ w.heap.size + 1; omega) u).other (a := ⟨w.heap.size + 1, 1, none⟩) (by show G ≠ w.heap.size + 1; omega) v))
        have hG1 : w.heap.size + 1 ≠ G := by omega
        clear hD hE hRr e63 hk hlt
        go_wp2_with fail
        refine bodyPost_ret (v := .agg #[.int .i64 d, .slice (some ⟨G, 0, none⟩) 63 63]) (by simp [results, Tryd.results32, go_sem, s0, s1]) rfl ⟨_, rfl, ⟨_, rfl, ?_⟩, ?_⟩
        · have := blk_own (hO.out (.int .i64 d) (.slice (some ⟨G, 0, none⟩) 63 63)) (base := w.heap.size) (by omega) (by rw [acTo_len]; decide)
          rw [acTo_len] at this
          exact this
        · exact (hBr.out.setCell (p := ⟨w.heap.size + 1, 0, none⟩) (Nat.le_succ _) _).setCell (p := ⟨w.heap.size + 1, 1, none⟩) (Nat.le_succ _) _
end Go.Proofs.YtcodmkampihphaaDoor
