/- Mirror and Transpose, of the program and of the specification. -/
import Derived.Test.YtcodmkampihphaaDoorSh
namespace Go.Proofs.YtcodmkampihphaaDoor
open Go.RowKit
set_option linter.unusedVariables false

theorem BV.below' {w w' : World} {v : Value} {d : Int} {xs : List Int} (h : BV w v d xs) (hb : Below w.heap.size w w') : BV w' v d xs := h.below hb
/-- A turned block. -/
def tbD (M : List Int) (d : Int) (xs : List Int) : Int := if blkOk d xs = true then M.getD 0 0 else 0
def tbA (M : List Int) (d : Int) (xs : List Int) : List Int := if blkOk d xs = true then acTo M 63 else []

set_option maxHeartbeats 800000 in
theorem impl_turnedBad (d : Int) (xs : List Int) (a : Option Addr) (c : Nat) (t : Int) (w : World) (hl : xs.length ≤ 1048576) (hok : blkOk d xs = false) (hv : View .i64 w a xs.length xs) :
    Calls Tryd.prog 28 #[.agg #[.int .i64 d, .slice a xs.length c], .int .i64 t] w fun e w' => ∃ v, e = .returned v ∧ BOwn w' w.heap.size v 0 [] ∧ Below w.heap.size w w' := by
  have HST := hid (show StT w [.int .i64 d, .slice a xs.length c] [.int .i64 0, .slice none 0 0] ((w.alloc (.cells #[.int .i64 d, .slice a xs.length c] 28)).alloc (.cells #[.int .i64 0, .slice none 0 0] 28)) from
    ⟨((Below.refl w.heap.size w).alloc (Nat.le_refl _) _).alloc (by simp) _, (Blk.new w [.int .i64 d, .slice a xs.length c] 28).alloc _, Blk.newG (by simp) [.int .i64 0, .slice none 0 0] 28⟩)
  have HOK := hid (fun q (hq : Below w.heap.size w q) => impl_blockOk (.agg #[.int .i64 d, .slice a xs.length c]) d xs q hl ⟨a, c, rfl, hv.below (Nat.le_refl _) hq⟩)
  rw [hok] at HOK
  clear hok hv
  go_enter Tryd.func28, Tryd.ntmps28
  go_wp2_with fail
  refine (HOK.out _ HST.out.1).mono ?_
  rintro e w1 ⟨rfl, hb1⟩
  have HSc := hid (HST.out.step hb1)
  have s0 := HSc.out.2.2.cell (i := 0) rfl
  have s1 := HSc.out.2.2.cell (i := 1) rfl
  have f0 := HSc.out.2.2.free 0
  have f1 := HSc.out.2.2.free 1
  clear HST HOK hb1
  go_wp2_with fail
  refine bodyPost_ret (v := .agg #[.int .i64 0, .slice none 0 0]) (by simp [results, Tryd.results28, go_sem, s0, s1]) rfl ⟨_, rfl, ?_, ?_⟩
  · exact bown_zero _ _ (by have := HSc.out.1.size; simpa using this)
  · exact belowSet (belowSet HSc.out.1 (Nat.le_succ _) _) (Nat.le_succ _) _

/-- A turned block, whichever block. -/
theorem turn_any (t : Int) (M : List Int) (v : Value) (d : Int) (xs : List Int) (w : World) (hl : xs.length ≤ 1048576) (hv : BV w v d xs)
    (h : ∀ a c, blkOk d xs = true → View .i64 w a 63 xs → Calls Tryd.prog 28 #[.agg #[.int .i64 d, .slice a 63 c], .int .i64 t] w fun e w' => ∃ v, e = .returned v ∧ BOwn w' w.heap.size v (M.getD 0 0) (acTo M 63) ∧ Below w.heap.size w w') :
    Calls Tryd.prog 28 #[v, .int .i64 t] w fun e w' => ∃ v, e = .returned v ∧ BOwn w' w.heap.size v (tbD M d xs) (tbA M d xs) ∧ Below w.heap.size w w' := by
  obtain ⟨a, c, rfl, hvw⟩ := hv
  cases hok : blkOk d xs with
  | true =>
    have h63 := (blk_at hok).2.1
    unfold tbD tbA
    rw [hok, if_pos rfl, if_pos rfl]
    rw [h63] at hvw ⊢
    exact h a c hok hvw
  | false =>
    unfold tbD tbA
    rw [hok, if_neg (by decide), if_neg (by decide)]
    exact impl_turnedBad d xs a c t w hl hok hvw

set_option maxHeartbeats 400000 in
theorem impl_mirror (v : Value) (d : Int) (xs : List Int) (w : World) (hl : xs.length ≤ 1048576) (hv : BV w v d xs) (hw : WayAt w) :
    Calls Tryd.prog 10 #[v] w fun e w' => ∃ v', e = .returned v' ∧ BOwn w' w.heap.size v' (tbD (mirTo (sq d xs) 64) d xs) (tbA (mirTo (sq d xs) 64) d xs) ∧ Below w.heap.size w w' := by
  have HT := hid (fun q (hq : Below w.heap.size w q) => turn_any 0 (mirTo (sq d xs) 64) v d xs q hl (BV.below' hv hq) (fun a c hok hvw => impl_turned0 d xs a c q hok hvw (hw.below hq)))
  obtain ⟨a, c, rfl, hvw⟩ := hv
  have HST := hid (show StT w [.int .i64 d, .slice a xs.length c] [.int .i64 0, .slice none 0 0] ((w.alloc (.cells #[.int .i64 d, .slice a xs.length c] 28)).alloc (.cells #[.int .i64 0, .slice none 0 0] 28)) from
    ⟨((Below.refl w.heap.size w).alloc (Nat.le_refl _) _).alloc (by simp) _, (Blk.new w [.int .i64 d, .slice a xs.length c] 28).alloc _, Blk.newG (by simp) [.int .i64 0, .slice none 0 0] 28⟩)
  clear hvw hw
  generalize tbD (mirTo (sq d xs) 64) d xs = D at *
  generalize tbA (mirTo (sq d xs) 64) d xs = A at *
  go_enter Tryd.func10, Tryd.ntmps10
  go_wp2_with fail
  refine (HT.out _ HST.out.1).mono ?_
  rintro e w1 ⟨v, rfl, ⟨va, rfl, hOw⟩, hb1⟩
  have hsl := HST.out.2.2.lt
  have HSc := hid (HST.out.step hb1)
  obtain ⟨oo, oc, rfl⟩ := hOw.shape
  have HOw := hid hOw
  have s0 := HSc.out.2.2.cell (i := 0) rfl
  have s1 := HSc.out.2.2.cell (i := 1) rfl
  have f0 := HSc.out.2.2.free 0
  have f1 := HSc.out.2.2.free 1
  clear HST HT hb1 hOw
  go_wp2_with fail
  refine bodyPost_ret (v := .agg #[.int .i64 D, .slice oo A.length oc]) (by simp [results, Tryd.results10, go_sem, s0, s1]) rfl ⟨_, rfl, ⟨_, rfl, ?_⟩, ?_⟩
  · exact ((HOw.out.setB (by omega) _).setB (by omega) _).mono (by omega)
  · exact belowSet (belowSet HSc.out.1 (Nat.le_succ _) _) (Nat.le_succ _) _

set_option maxHeartbeats 400000 in
theorem impl_transpose (v : Value) (d : Int) (xs : List Int) (w : World) (hl : xs.length ≤ 1048576) (hv : BV w v d xs) (hw : WayAt w) :
    Calls Tryd.prog 11 #[v] w fun e w' => ∃ v', e = .returned v' ∧ BOwn w' w.heap.size v' (tbD (trTo (sq d xs) 64) d xs) (tbA (trTo (sq d xs) 64) d xs) ∧ Below w.heap.size w w' := by
  have HT := hid (fun q (hq : Below w.heap.size w q) => turn_any 1 (trTo (sq d xs) 64) v d xs q hl (BV.below' hv hq) (fun a c hok hvw => impl_turned1 d xs a c q hok hvw (hw.below hq)))
  obtain ⟨a, c, rfl, hvw⟩ := hv
  have HST := hid (show StT w [.int .i64 d, .slice a xs.length c] [.int .i64 0, .slice none 0 0] ((w.alloc (.cells #[.int .i64 d, .slice a xs.length c] 28)).alloc (.cells #[.int .i64 0, .slice none 0 0] 28)) from
    ⟨((Below.refl w.heap.size w).alloc (Nat.le_refl _) _).alloc (by simp) _, (Blk.new w [.int .i64 d, .slice a xs.length c] 28).alloc _, Blk.newG (by simp) [.int .i64 0, .slice none 0 0] 28⟩)
  clear hvw hw
  generalize tbD (trTo (sq d xs) 64) d xs = D at *
  generalize tbA (trTo (sq d xs) 64) d xs = A at *
  go_enter Tryd.func11, Tryd.ntmps11
  go_wp2_with fail
  refine (HT.out _ HST.out.1).mono ?_
  rintro e w1 ⟨v, rfl, ⟨va, rfl, hOw⟩, hb1⟩
  have hsl := HST.out.2.2.lt
  have HSc := hid (HST.out.step hb1)
  obtain ⟨oo, oc, rfl⟩ := hOw.shape
  have HOw := hid hOw
  have s0 := HSc.out.2.2.cell (i := 0) rfl
  have s1 := HSc.out.2.2.cell (i := 1) rfl
  have f0 := HSc.out.2.2.free 0
  have f1 := HSc.out.2.2.free 1
  clear HST HT hb1 hOw
  go_wp2_with fail
  refine bodyPost_ret (v := .agg #[.int .i64 D, .slice oo A.length oc]) (by simp [results, Tryd.results11, go_sem, s0, s1]) rfl ⟨_, rfl, ⟨_, rfl, ?_⟩, ?_⟩
  · exact ((HOw.out.setB (by omega) _).setB (by omega) _).mono (by omega)
  · exact belowSet (belowSet HSc.out.1 (Nat.le_succ _) _) (Nat.le_succ _) _
end Go.Proofs.YtcodmkampihphaaDoor
