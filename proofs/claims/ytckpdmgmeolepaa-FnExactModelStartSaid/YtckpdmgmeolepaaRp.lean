/- The contract of slices.Repeat for one number, and of ModelStart. -/
import Derived.Test.YtckpdmgmeolepaaMc
import Derived.Test.YtckpdmgmeolepaaPa
import Derived.Shelf.Bits.Mul64
import Derived.Laws.CopyOwn
namespace Go.Proofs.Ytckpdmgmeolepaa
open Go.RowKit Go.Shelf
set_option linter.unusedVariables false

def Try.laysMul_ren : Go.Shelf.Ren := { f := fun x => match x with | 212 => 66 | 263 => 70 | 264 => 71 | n => n, t := fun x => match x with | 46 => 53 | 51 => 70 | 146 => 84 | 53 => 76 | 148 => 86 | n => n, g := fun n => n }
theorem Try.laysMul : Lays.n212 Try.prog Try.laysMul_ren := {
  mixed := by kernel_rfl
  f212 := Try.func66.trans (by kernel_rfl)
  f263 := Try.func70.trans (by kernel_rfl)
  f264 := Try.func71.trans (by kernel_rfl)
  t46 := Try.underlying53
  a46 := Try.isAgg53
  z46 := Try.sizeOf53
  v46 := Try.zeroValue53
  t51 := Try.underlying70
  a51 := Try.isAgg70
  z51 := Try.sizeOf70
  v51 := Try.zeroValue70
  t53 := Try.underlying76
  a53 := Try.isAgg76
  z53 := Try.sizeOf76
  v53 := Try.zeroValue76
  t146 := Try.underlying84
  a146 := Try.isAgg84
  z146 := Try.sizeOf84
  v146 := Try.zeroValue84
  t148 := Try.underlying86
  a148 := Try.isAgg86
  z148 := Try.sizeOf86
  v148 := Try.zeroValue86 }

theorem own_of_cells {w : World} {base g n : Nat} {cur : List Value} {y : Int} (hb : base ≤ g) (hg : w.heap[g]? = some (.cells cur.toArray 3 (0, 0))) (hl : cur.length = n) (hn : n ≤ 100000) (hc : ∀ j, j < n → cur[j]? = some (.int .i64 y)) :
    Own w base 3 .i64 (.slice (some ⟨g, 0, none⟩) n n) (List.replicate n y) := by
  have hlt := (Array.getElem?_eq_some_iff.1 hg).1
  refine ⟨by omega, by simp, .inr ⟨g, n, cur.toArray, by simp, hb, hg, by simp, by unfold maxLen; omega, by simp [hl], ?_⟩⟩
  apply List.ext_getElem?
  intro j
  simp only [List.length_replicate, Nat.mul_one, List.getElem?_take]
  by_cases hj : j < n
  · rw [if_pos hj, hc j hj]
    simp [hj]
  · rw [if_neg hj]
    simp [hj]

set_option maxRecDepth 100000 in
set_option maxHeartbeats 1600000 in
theorem repeat_one (g n : Nat) (y : Int) (w : World) (hn : n ≤ 1200) (hg : w.heap[g]? = some (.cells #[.int .i64 y] 3 (0, 0))) :
    Calls Try.prog 50 #[.slice (some ⟨g, 0, none⟩) 1 1, .int .i64 n] w fun e w' => ∃ v, e = .returned v ∧ Own w' w.heap.size 3 .i64 v (List.replicate n y) ∧ Below w.heap.size w w' := by
  have e1 : 1 * n / 18446744073709551616 = 0 := by omega
  have e2 : 1 * n % 18446744073709551616 = n := by omega
  have HM : Hid (Calls Try.prog 66 #[.int .u64 1, .int .u64 n] w fun e w' => e = .returned (.tuple #[.int .u64 0, .int .u64 n]) ∧ w' = w) := by
    have := Any.bits_Mul Try.laysMul 1 n (by decide) (by omega) w
    rw [e1, e2] at this
    exact this
  have c0 : w.cell? ⟨g, 0, none⟩ = some (.int .i64 y) := by rw [cell_of_row w g 0 _ 3 (0, 0) hg]; rfl
  have hglt := hid (Array.getElem?_eq_some_iff.1 hg).1
  have HC0 := hid c0
  clear e1 e2 hg c0
  have h0n : (0 : Int) ≤ (n : Int) := by omega
  have hsz3 : (Try.prog.info? 3).map (·.size) = some 1 := by kernel_rfl
  have HS3 := hid hsz3
  clear hsz3
  go_enter Try.func50, Try.ntmps50
  go_wp2_with fail
  refine HM.out.mono ?_
  rintro e w1 ⟨rfl, rfl⟩
  go_wp2_with (at_make; refine wpList_mkn w1 rfl _ _ 25 rfl w1.heap.size 3 .i64 8 Try.underlying25 Try.info3 _ _ n rfl rfl (by omega) (by decide) (Nat.le_refl _) ?_)
  intro w2 hown2 hb2
  obtain ⟨cur, hcur, hcl⟩ : ∃ cur : List Value, w2.heap[w1.heap.size]? = some (.cells cur.toArray 3 (0, 0)) ∧ cur.length = n := by
    rcases hown2.2.2 with ⟨e2, h0⟩ | ⟨g', cap', cur, e2, hg', hh, hle, hm, hsz, ht⟩
    · cases e2
    · simp only [Value.slice.injEq, Option.some.injEq, Addr.mk.injEq] at e2
      obtain ⟨⟨rfl, _⟩, _, rfl⟩ := e2
      exact ⟨cur.toList, by simpa using hh, by simpa using hsz⟩
  have HCU := hid hcur
  have HCL := hid hcl
  have HB2 := hid hb2
  have hc2 : Hid (w2.cell? ⟨g, 0, none⟩ = some (.int .i64 y)) := (hb2.cell (p := ⟨g, 0, none⟩) hglt.out).trans HC0.out
  clear hown2 hb2 hcur hcl
  have hcs : ([Value.int .i64 y].take (min 1 n)).length = Nat.min 1 n := by
    rw [List.length_take]
    show min (min 1 n) 1 = min 1 n
    omega
  have hcsl : ([Value.int .i64 y].take (min 1 n)).length = min 1 n := hcs
  have hsrc : ∀ (j : Nat) (v : Value), ([Value.int .i64 y].take (min 1 n))[j]? = some v → w2.cell? ((⟨g, 0, none⟩ : Addr).add j) = some v := by
    intro j v hj
    rw [List.getElem?_take] at hj
    by_cases h : j < min 1 n
    · rw [if_pos h] at hj
      obtain rfl : j = 0 := by omega
      simp at hj
      subst hj
      exact hc2.out
    · rw [if_neg h] at hj
      cases hj
  have hfit : 0 + ([Value.int .i64 y].take (min 1 n)).length ≤ cur.length := by rw [hcsl, HCL.out]; omega
  have hone : ∀ v ∈ [Value.int .i64 y].take (min 1 n), v.oneCell' = true := fun v hv => by
    have := List.mem_of_mem_take hv
    simp at this
    subst this
    rfl
  have HCS := hid hcs
  have HSRC := hid hsrc
  have HFIT := hid hfit
  have HONE := hid hone
  have HSP : Hid (∀ j, j < min 1 n → (splice cur 0 ([Value.int .i64 y].take (min 1 n)))[j]? = some (.int .i64 y)) := by
    intro j hj
    obtain rfl : j = 0 := by omega
    have hn1 : min 1 n = 1 := by omega
    rw [hn1]
    simp [splice]
  have HSL : Hid ((splice cur 0 ([Value.int .i64 y].take (min 1 n))).length = n) := by
    rw [length_splice _ _ _ hfit]
    exact HCL.out
  have HGI : Hid (goInt (([Value.int .i64 y].take (min 1 n)).length : Int) = .int .i64 ((min 1 n : Nat) : Int)) := by rw [hcsl]; rfl
  clear hcs hcsl hsrc hfit hone
  go_wp2_with (refine wpList_copy_splice rfl _ _ 25 25 rfl 3 Try.underlying25 HS3.out (some ⟨w1.heap.size, 0, none⟩) (some ⟨g, 0, none⟩) n n 1 1 rfl rfl w1.heap.size 0 cur 3 HCU.out ([Value.int .i64 y].take (min 1 n)) HCS.out (fun _ => ⟨rfl, ⟨g, 0, none⟩, rfl, HSRC.out⟩) HFIT.out HONE.out w1.heap.size w1 HB2.out (Nat.le_refl _) ?_)
  intro w3 hcur3 hb3
  have HB3 := hid hb3
  clear hb3
  generalize splice cur 0 ([Value.int .i64 y].take (min 1 n)) = cur3 at *
  go_wp2_with fail
  go_loopw [8] (fun i wr => ∃ (k : Nat) (cu : List Value), k ≤ n ∧ (0 < n → 0 < k) ∧ i = .int .i64 k ∧ Hid (wr.heap[w1.heap.size]? = some (.cells cu.toArray 3 (0, 0))) ∧ Hid (cu.length = n ∧ ∀ j, j < k → cu[j]? = some (.int .i64 y)) ∧ Below w1.heap.size w1 wr) (fun i _ => n - (intOf i).toNat)
  case atStart => exact ⟨min 1 n, cur3, by omega, fun _ => by omega, rfl, hcur3, ⟨HSL.out, HSP.out⟩, HB3.out⟩
  case round =>
    obtain ⟨k, cu, hk, hk0, rfl, hcu, hcc, hB⟩ := hrel
    have HB := hid hB
    clear hB hcur3 HB3 HSL HSP HGI HCS HSRC HFIT HONE HCU HB2
    by_cases hlt : k < n
    · have hlt' : (k : Int) < (n : Int) := by omega
      have hne : ¬ n = k := by omega
      have hne' : ¬ k = n := by omega
      have hfit : k + (cu.take (min k (n - k))).length ≤ cu.length := by rw [List.length_take, hcc.out.1]; omega
      have HCS : Hid ((cu.take (min k (n - k))).length = Nat.min k (n - k)) := by
        show _ = min k (n - k)
        rw [List.length_take, hcc.out.1]
        omega
      have HSRC : Hid (∀ (j : Nat) (v : Value), (cu.take (min k (n - k)))[j]? = some v → wr.cell? ((⟨w1.heap.size, 0, none⟩ : Addr).add j) = some v) := by
        intro j v hj
        rw [List.getElem?_take] at hj
        by_cases h : j < min k (n - k)
        · rw [if_pos h] at hj
          rw [Addr.add_lit, Nat.zero_add, cell_of_row wr _ j _ 3 (0, 0) hcu.out]
          simpa using hj
        · rw [if_neg h] at hj
          cases hj
      have HFIT := hid hfit
      have HONE : Hid (∀ v ∈ cu.take (min k (n - k)), v.oneCell' = true) := by
        intro v hv
        obtain ⟨j, hj, rfl⟩ := List.getElem_of_mem hv
        rw [List.length_take] at hj
        have h1 := hcc.out.2 j (by omega)
        rw [List.getElem_take]
        rw [List.getElem?_eq_getElem (by omega)] at h1
        rw [Option.some.inj h1]
        rfl
      have HSL : Hid ((splice cu k (cu.take (min k (n - k)))).length = n) := by
        rw [length_splice _ _ _ hfit]
        exact hcc.out.1
      have HSP : Hid (∀ j, j < k + min k (n - k) → (splice cu k (cu.take (min k (n - k))))[j]? = some (.int .i64 y)) := by
        intro j hj
        have hT : (cu.take k).length = k := by rw [List.length_take, hcc.out.1]; omega
        have hC : (cu.take (min k (n - k))).length = min k (n - k) := HCS.out
        unfold splice
        by_cases hjk : j < k
        · rw [List.getElem?_append_left (by rw [hT]; omega), List.getElem?_take, if_pos hjk]
          exact hcc.out.2 j hjk
        · rw [List.getElem?_append_right (by rw [hT]; omega), hT, List.getElem?_append_left (by rw [hC]; omega), List.getElem?_take, if_pos (by omega)]
          exact hcc.out.2 _ (by omega)
      have HGI : Hid (goInt ((cu.take (min k (n - k))).length : Int) = .int .i64 ((min k (n - k) : Nat) : Int)) := by
        have := HCS.out
        rw [this]
        rfl
      clear hfit
      have hwr : IntKind.i64.wrap ((k : Int) + ((min k (n - k) : Nat) : Int)) = (k : Int) + ((min k (n - k) : Nat) : Int) := by rw [IntKind.wrap_i64]; omega
      have HWR := hid hwr
      clear hwr
      have hm1 := hid (show k + min k (n - k) ≤ n ∧ k < k + min k (n - k) from by have := hk0 (by omega); omega)
      go_wp2_with fail
      go_region_law (refine step_copy_splice (by rfl) (.tmp 41) (.tmp 44) 25 25 (by rfl) 3 Try.underlying25 HS3.out (some ⟨w1.heap.size, k, none⟩) (some ⟨w1.heap.size, 0, none⟩) (n - k) (n - k) k n (by go_simp) (by go_simp) w1.heap.size k cu 3 hcu.out (cu.take (min k (n - k))) HCS.out (fun _ => ⟨rfl, ⟨w1.heap.size, 0, none⟩, rfl, HSRC.out⟩) HFIT.out HONE.out w1.heap.size w1 (belowN HB.out 1) (Nat.le_refl _) ?_; intro w3 hcur3 hb3)
      all_goals
        have hmm : min k (min (n - k) cu.length) = min k (n - k) := by have := hcc.out.1; omega
        rw [hmm, HWR.out]
        have HB3 := hid hb3
        clear hb3 hmm HWR
        generalize splice cu k (cu.take (min k (n - k))) = cu2 at *
        generalize min k (n - k) = mm at *
        go_simp
        go_roundw
        case rel =>
          refine ⟨.int .i64 ((k : Int) + (mm : Int)), _, _, _, _, _, _, _, _, _, _, _, _, _, ⟨k + mm, cu2, hm1.out.1, fun _ => ?_, ?_, hcur3, ⟨HSL.out, HSP.out⟩, HB3.out⟩, rfl⟩
          · have := hm1.out; omega
          · go_num
        case measure => simp [intOf]; have := hm1.out; omega
    · obtain rfl : k = n := by omega
      have HOW := hid (own_of_cells (Nat.le_refl _) hcu.out hcc.out.1 (by omega) hcc.out.2)
      clear hlt hk hk0
      go_wp2_with fail
      go_ret
      exact ⟨_, rfl, HOW.out, HB.out⟩
end Go.Proofs.Ytckpdmgmeolepaa
