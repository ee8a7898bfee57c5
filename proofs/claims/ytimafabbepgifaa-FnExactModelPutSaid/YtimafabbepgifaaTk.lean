/- The contract of the coder's way of a bit (take): method values in an array, one of them called. -/
import Derived.Test.YtimafabbepgifaaCo
import Derived.Deep.RegionHeld3
import Derived.Laws.EntriesVeiled
namespace Go.Proofs.Ytimafabbepgifaa
open Go.RowKit
set_option linter.unusedVariables false

set_option maxRecDepth 100000 in
set_option maxHeartbeats 1600000 in
theorem take_any (b : Nat) (lo hi bit p : Int) (r : List Value) (t : TypeId) (w : World) (hl : W32 lo) (hh : W32 hi) (hb : bit = 0 ∨ bit = 1) (hB : Blk w b (.int .u32 lo :: .int .u32 hi :: r) t) :
    Calls Try.prog 91 #[.pointer (some ⟨b, 0, none⟩), .int .i64 bit, .int .i64 p] w fun e w' => e = .returned (.tuple #[]) ∧ Blk w' b (.int .u32 (nLo lo hi bit p) :: .int .u32 (nHi lo hi bit p) :: r) t ∧ Ef b w w' := by
  have hmf : ∀ (fn : Fn) (first cap : Array Value) (w : World), (Instr.makeFunc fn first cap).run Try.prog w = .ok (.func fn first cap) w := fun _ _ _ _ => rfl
  have HM := hid (fun q => impl_mid lo hi p q hl hh)
  have hm := hid (cMid_word (p := p) hl hh)
  have hlt := hB.lt
  have HB := hid hB
  have q0 : w.cell? ⟨b, 0, none⟩ = some (.int .u32 lo) := hB.cell rfl
  have q1 : w.cell? ⟨b, 1, none⟩ = some (.int .u32 hi) := hB.cell rfl
  rcases hb with rfl | rfl
  · have HN : Hid ((cMid lo hi p + 1) % 4294967296 = nLo lo hi 0 p ∧ hi = nHi lo hi 0 p) := ⟨by unfold nLo; simp, by unfold nHi; simp⟩
    generalize nLo lo hi 0 p = L at *
    generalize nHi lo hi 0 p = H at *
    generalize cMid lo hi p = M at *
    clear hl hh hB
    go_enter Try.func91, Try.ntmps91
    go_wp2_with fail
    have HA := hid (Blk.new w [.func (.func 105) #[.pointer (some ⟨b, 0, none⟩)] #[], .func (.func 106) #[.pointer (some ⟨b, 0, none⟩)] #[]] 139)
    have hbw := hid ((Below.refl w.heap.size w).alloc (Nat.le_refl _) (.cells #[.func (.func 105) #[.pointer (some ⟨b, 0, none⟩)] #[], .func (.func 106) #[.pointer (some ⟨b, 0, none⟩)] #[]] 139))
    have HB2 := hid (HB.out.below hbw.out hlt)
    have EF := hid (Ef.ofBelow (C := b) hbw.out)
    have hA0 := HA.out.cell (i := 0) rfl
    have p0 := HB2.out.cell (i := 0) rfl
    have p1 := HB2.out.cell (i := 1) rfl
    have HF := hid (HA.out.free 0)
    clear q0 q1 HA hbw HB
    generalize w.alloc (.cells #[.func (.func 105) #[.pointer (some ⟨b, 0, none⟩)] #[], .func (.func 106) #[.pointer (some ⟨b, 0, none⟩)] #[]] 139) = w2 at *
    generalize w.heap.size = N at *
    go_region_with (first
      | (go_at_call 96; refine (HM.out _).mono ?_; rintro e w1 ⟨rfl, rfl⟩)
      | (go_at_call 105; refine (take_zero b lo hi M r t _ hm.out (HB2.out.below (below_drewN _ 1) HB2.out.lt)).mono ?_; rintro e w3 ⟨rfl, hb3, he3⟩))
    all_goals
      have HE := hid ((EF.out.trans (Ef.ofBelow (below_drewN _ 1))).trans he3)
      have HB3 := hid hb3
      go_wp2_with fail
      go_end0
      rw [← HN.out.1, ← HN.out.2]
      exact ⟨rfl, HB3.out, HE.out⟩
  · have HN : Hid (lo = nLo lo hi 1 p ∧ cMid lo hi p = nHi lo hi 1 p) := ⟨by unfold nLo; simp, by unfold nHi; simp⟩
    generalize nLo lo hi 1 p = L at *
    generalize nHi lo hi 1 p = H at *
    generalize cMid lo hi p = M at *
    clear hl hh hB
    go_enter Try.func91, Try.ntmps91
    go_wp2_with fail
    have HA := hid (Blk.new w [.func (.func 105) #[.pointer (some ⟨b, 0, none⟩)] #[], .func (.func 106) #[.pointer (some ⟨b, 0, none⟩)] #[]] 139)
    have hbw := hid ((Below.refl w.heap.size w).alloc (Nat.le_refl _) (.cells #[.func (.func 105) #[.pointer (some ⟨b, 0, none⟩)] #[], .func (.func 106) #[.pointer (some ⟨b, 0, none⟩)] #[]] 139))
    have HB2 := hid (HB.out.below hbw.out hlt)
    have EF := hid (Ef.ofBelow (C := b) hbw.out)
    have hA0 := HA.out.cell (i := 1) rfl
    have p0 := HB2.out.cell (i := 0) rfl
    have p1 := HB2.out.cell (i := 1) rfl
    have HF := hid (HA.out.free 1)
    clear q0 q1 HA hbw HB
    generalize w.alloc (.cells #[.func (.func 105) #[.pointer (some ⟨b, 0, none⟩)] #[], .func (.func 106) #[.pointer (some ⟨b, 0, none⟩)] #[]] 139) = w2 at *
    generalize w.heap.size = N at *
    go_region_with (first
      | (go_at_call 96; refine (HM.out _).mono ?_; rintro e w1 ⟨rfl, rfl⟩)
      | (go_at_call 106; refine (take_one b lo hi M r t _ hm.out (HB2.out.below (below_drewN _ 1) HB2.out.lt)).mono ?_; rintro e w3 ⟨rfl, hb3, he3⟩))
    all_goals
      have HE := hid ((EF.out.trans (Ef.ofBelow (below_drewN _ 1))).trans he3)
      have HB3 := hid hb3
      go_wp2_with fail
      go_end0
      rw [← HN.out.1, ← HN.out.2]
      exact ⟨rfl, HB3.out, HE.out⟩
end Go.Proofs.Ytimafabbepgifaa
