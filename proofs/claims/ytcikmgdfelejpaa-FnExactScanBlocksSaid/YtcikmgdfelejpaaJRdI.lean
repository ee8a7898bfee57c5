/- The program's reader of scans: contracts of its symbols, rests, differences and steps. -/
import Derived.Test.YtcikmgdfelejpaaJRdP
import Derived.Test.YtcikmgdfelejpaaJGg
import Derived.Test.YtcikmgdfelejpaaJSymImpl
import Derived.Test.YtcikmgdfelejpaaJTbW
namespace Go.Proofs.Ytcikmgdfelejpaa
open Go.RowKit Go.Maps
set_option linter.unusedVariables false

/-- Of what was there only block b may have turned. -/
def Ef (b : Nat) (w w' : World) : Prop := w.grownBy w' (some b)
theorem Ef.trans {C : Nat} {a b c : World} (h : Ef C a b) (k : Ef C b c) : Ef C a c :=
  ⟨k.os.trans h.os, k.tape.trans h.tape, k.output.trans h.output, Nat.le_trans h.size k.size, fun g hg hne => (k.block g (Nat.lt_of_lt_of_le hg h.size) hne).trans (h.block g hg hne)⟩
theorem Ef.ofBelow {C : Nat} {a w : World} (hb : Below a.heap.size a w) : Ef C a w := ⟨hb.os, hb.tape, hb.output, hb.size, fun k hk _ => hb.block k hk⟩
theorem Ef.refl (C : Nat) (w : World) : Ef C w w := World.grownBy.refl w _
theorem Ef.set {C : Nat} (w : World) (j : Nat) (u : Value) : Ef C w (w.setCell ⟨C, j, none⟩ u) :=
  ⟨rfl, rfl, rfl, by simp, fun k _ hk => heap_setCell_other w ⟨C, j, none⟩ k u (fun e => hk (by rw [e]))⟩
theorem Ef.drew {C : Nat} {a w : World} (h : Ef C a w) : Ef C a w.drew := ⟨h.os, h.tape, h.output, h.size, h.block⟩
theorem Ef.below {C B : Nat} {w w' : World} (h : Ef C w w') (hC : B ≤ C) (hs : B ≤ w.heap.size) : Below B w w' := ⟨h.os, h.tape, h.output, h.size, fun k hk => h.block k (by omega) (fun e => by have := Option.some.inj e; omega)⟩
/-- A slice that lies in one row, or none at all. -/
def SlOk (ao : Option Addr) (n cap : Nat) : Prop := (ao = none ∧ n = 0 ∧ cap = 0) ∨ ∃ blk off, ao = some ⟨blk, off, none⟩ ∧ n ≤ cap
/-- The reader in block b, at place i. -/
def RS (w0 w : World) (b C1 C2 : Nat) (ao : Option Addr) (cap : Nat) (T : Tb) (xs : List Int) (i : Nat) : Prop :=
  (w0.heap.size ≤ b ∧ i ≤ xs.length ∧ xs.length ≤ 1048576 ∧ SlOk ao xs.length cap) ∧ Below w0.heap.size w0 w ∧ View .i64 w0 ao xs.length xs ∧ Four w b (.pointer (some ⟨C1, 0, none⟩)) (.pointer (some ⟨C2, 0, none⟩)) (.slice ao xs.length cap) (.int .i64 i) 95 ∧ Books w C1 C2 T.cs T.ss T.ct T.st
theorem RS.below {w0 w w' : World} {b C1 C2 : Nat} {ao : Option Addr} {cap : Nat} {T : Tb} {xs : List Int} {i : Nat} (h : RS w0 w b C1 C2 ao cap T xs i) (hb : Below w.heap.size w w') : RS w0 w' b C1 C2 ao cap T xs i := by
  obtain ⟨h1, h2, h3, h4, h5⟩ := h
  exact ⟨h1, h2.trans (hb.mono h2.size), h3, h4.below hb h4.lt, h5.below hb⟩
theorem BookAt.setF {w : World} {C M b i : Nat} {ss : List Int} {K : List (Nat × Int)} {x y z v : Value} {t : TypeId} (h : BookAt w C M ss K) (ht : Four w b x y z v t) (hne : t ≠ 143) (u : Value) : BookAt (w.setCell ⟨b, i, none⟩ u) C M ss K := by
  obtain ⟨⟨arr, h1, h2⟩, h3⟩ := h
  obtain ⟨es, clock, hh, r⟩ := h3
  have hCb : C ≠ b := fun e => by
    subst e
    unfold Four at ht
    unfold Arr at h1
    rw [h1] at ht
    cases ht
    exact hne rfl
  have hMb : M ≠ b := fun e => by
    subst e
    unfold Four at ht
    rw [hh] at ht
    cases ht
  exact ⟨⟨arr, h1.other hCb u, h2⟩, es, clock, (heap_setCell_other _ ⟨b, i, none⟩ M _ (fun e => hMb e)).trans hh, r⟩
theorem RS.move {w0 w : World} {b C1 C2 : Nat} {ao : Option Addr} {cap : Nat} {T : Tb} {xs : List Int} {i : Nat} (h : RS w0 w b C1 C2 ao cap T xs i) (n : Nat) (hn : n ≤ xs.length) : RS w0 (w.setCell ⟨b, 3, none⟩ (.int .i64 n)) b C1 C2 ao cap T xs n := by
  obtain ⟨h1, h2, h3, h4, ⟨M, h5⟩, M', h6⟩ := h
  exact ⟨⟨h1.1, hn, h1.2.2.1, h1.2.2.2⟩, h2.setCell (p := ⟨b, 3, none⟩) h1.1 _, h3, h4.set3 _, ⟨M, h5.setF h4 (by decide) _⟩, M', h6.setF h4 (by decide) _⟩
theorem one_ne_zero_i : ((1 : Int) = 0) = False := by simp
theorem RS.view {w0 w : World} {b C1 C2 : Nat} {ao : Option Addr} {cap : Nat} {T : Tb} {xs : List Int} {i : Nat} (h : RS w0 w b C1 C2 ao cap T xs i) : View .i64 w ao xs.length xs := h.2.2.1.below (Nat.le_refl _) h.2.1

/-- What the reader's symbol answers. -/
def SyP (w0 w : World) (b C1 C2 : Nat) (ao : Option Addr) (cap : Nat) (T : Tb) (xs : List Int) (i : Nat) (t : Int) (e : Ending) (w' : World) : Prop :=
  ((∃ s n, T.sym t xs i = some (s, n) ∧ (i ≤ n ∧ 0 ≤ s ∧ s ≤ 255) ∧ e = .returned (.tuple #[.int .i64 s, .bool true]) ∧ RS w0 w' b C1 C2 ao cap T xs n) ∨ (T.sym t xs i = none ∧ e = .returned (.tuple #[.int .i64 0, .bool false]) ∧ RS w0 w' b C1 C2 ao cap T xs i)) ∧ Ef b w w'

set_option maxRecDepth 100000 in
set_option maxHeartbeats 1600000 in
theorem rd_sym (w0 w : World) (b C1 C2 : Nat) (ao : Option Addr) (cap : Nat) (T : Tb) (xs : List Int) (i : Nat) (t : Int) (ht : t = 0 ∨ t = 1) (hT : T.right) (h : RS w0 w b C1 C2 ao cap T xs i) :
    Calls Try.prog 101 #[.pointer (some ⟨b, 0, none⟩), .int .i64 t] w (SyP w0 w b C1 C2 ao cap T xs i t) := by
  obtain ⟨C, hC, hcall⟩ : ∃ C, C = (if t = 0 then C1 else C2) ∧ ∀ q, Below w.heap.size w q → Calls Try.prog 113 #[.pointer (some ⟨C, 0, none⟩), .slice ao xs.length cap, .int .i64 i] q fun e w' => ∃ r0 r1 : Int, e = .returned (.tuple #[.int .i64 r0, .int .i64 r1]) ∧ SymIs (T.K t) (T.S t) xs i r0 r1 ∧ Below q.heap.size q w' := by
    obtain ⟨h1, h2, h3, h4, ⟨M, h5⟩, M', h6⟩ := h
    have hv := h3.below (Nat.le_refl _) h2
    have key : ∀ cs ss, rightC cs ss = true → (∀ x ∈ keysTo cs 16, KeyOk x) := fun cs ss hr => by
      obtain ⟨⟨hl, hok, ht, hroom⟩, htold, hap⟩ := (right_iff cs ss).1 hr
      exact keysTo_ok cs hok hroom 16 (by omega)
    rcases ht with rfl | rfl
    · exact ⟨C1, rfl, fun q hq => symAt_any C1 M T.ss xs (keysTo T.cs 16) ao cap i q h1.2.2.1 h1.2.1 (key _ _ hT.1) (keysTo_lt T.cs 16).1 (h5.below hq) (hv.below (Nat.le_refl _) hq)⟩
    · exact ⟨C2, rfl, fun q hq => symAt_any C2 M' T.st xs (keysTo T.ct 16) ao cap i q h1.2.2.1 h1.2.1 (key _ _ hT.2) (keysTo_lt T.ct 16).1 (h6.below hq) (hv.below (Nat.le_refl _) hq)⟩
  have HCL := hid hcall
  have HRS := hid h
  have HSY := hid (fun (p : Nat) (hp : p < (T.K t).length) => (show 0 ≤ (T.S t).getD p 0 ∧ (T.S t).getD p 0 ≤ 255 by
    have key : ∀ cs ss, rightC cs ss = true → p < (keysTo cs 16).length → 0 ≤ ss.getD p 0 ∧ ss.getD p 0 ≤ 255 := fun cs ss hr hp => by
      obtain ⟨⟨hl, hok, ht, hroom⟩, htold, hap⟩ := (right_iff cs ss).1 hr
      rw [keys_len cs ss hr] at hp
      exact apart_in ss _ hap p hp
    rcases ht with rfl | rfl
    · exact key _ _ hT.1 hp
    · exact key _ _ hT.2 hp))
  obtain ⟨q0, q1, q2, q3⟩ := h.2.2.2.1.cells
  have hil := h.1.2.1
  have HFC := hid (fun q (hq : Below w.heap.size w q) => (h.2.2.2.1.below hq h.2.2.2.1.lt).cells)
  have HFF := hid (fun q (hq : Below w.heap.size w q) => (h.2.2.2.1.below hq h.2.2.2.1.lt).free 3)
  clear h hcall hT
  rcases ht with rfl | rfl
  all_goals
    simp only [if_true, if_false, one_ne_zero_i] at hC
    rw [hC] at HCL
    clear hC
    go_enter Try.func101, Try.ntmps101
    go_wp2_with fail
    go_region_held3 (fun q => q.cell? ⟨b, 0, none⟩ = some (.pointer (some ⟨C1, 0, none⟩)) ∧ q.cell? ⟨b, 1, none⟩ = some (.pointer (some ⟨C2, 0, none⟩)) ∧ q.cell? ⟨b, 2, none⟩ = some (.slice ao xs.length cap) ∧ q.cell? ⟨b, 3, none⟩ = some (.int .i64 (i : Int))) (go_keep) (first
      | (go_at_call 113; refine (HCL.out _ ?_).mono ?_; · first | exact Below.refl _ _ | exact (Below.refl _ _).drew
         rintro e w1 ⟨r0, r1, rfl, hsy, hb1⟩
         have hc1 : Below w.heap.size w w1 := by first | exact hb1 | exact Below.trans (Below.refl _ _).drew hb1
         obtain ⟨f0, f1, f2, f3⟩ := HFC.out _ hc1))
    all_goals
      have hz3 := HFF.out _ hc1
      have RS1 := hid (HRS.out.below hc1)
      have EF1 := hid (Ef.ofBelow (C := b) hc1)
      clear hb1 hc1 q0 q1 q2 q3
      rcases symF_of hsy with ⟨rfl, rfl, hnone⟩ | ⟨n, rfl, hsome, hin, hnl, p, hp, hr0⟩
      · have HN := hid hnone
        clear hsy hnone
        go_wp2_with fail
        go_ret2
        exact ⟨.inr ⟨HN.out, rfl, RS1.out⟩, EF1.out⟩
      · have HS := hid hsome
        have hbd := HSY.out p hp
        rw [← hr0] at hbd
        have RS2 := hid (RS1.out.move n hnl)
        have EF2 := hid (EF1.out.trans (Ef.set w1 3 (.int .i64 (n : Int))))
        clear hsy hsome hp hr0
        go_wp2_with fail
        go_ret2
        exact ⟨.inl ⟨r0, n, HS.out, ⟨hin, hbd.1, hbd.2⟩, rfl, RS2.out⟩, EF2.out⟩

theorem View.sub {w : World} {blk off : Nat} {n : Nat} {xs : List Int} (h : View .i64 w (some ⟨blk, off, none⟩) n xs) (i m : Nat) (hi : i + m ≤ n) : View .i64 w (some ⟨blk, off + i, none⟩) m ((xs.drop i).take m) := by
  have hl := h.1
  refine ⟨by simp; omega, fun j hj => ⟨blk, off + i, rfl, ?_⟩⟩
  obtain ⟨b', off', e, hc⟩ := h.2 (i + j) (by omega)
  cases e
  rw [Nat.add_assoc, hc]
  simp only [List.getD, List.getElem?_take, List.getElem?_drop]
  rw [if_pos hj]
theorem RS.moved {w0 w : World} {b C1 C2 : Nat} {ao : Option Addr} {cap : Nat} {T : Tb} {xs : List Int} {i n : Nat} (h : RS w0 w b C1 C2 ao cap T xs i) (hn : i + n ≤ xs.length) {v : Int} (e : ((i + n : Nat) : Int) = v) (a c : Nat) : RS w0 (((w.drewN a).setCell ⟨b, 3, none⟩ (.int .i64 v)).drewN c) b C1 C2 ao cap T xs (i + n) := by
  rw [← e]
  exact ((h.below (below_drewN _ _)).move (i + n) hn).below (below_drewN _ _)
theorem Ef.moved (w : World) (b a c : Nat) {v : Value} : Ef b w (((w.drewN a).setCell ⟨b, 3, none⟩ v).drewN c) := ((Ef.ofBelow (C := b) (below_drewN _ _)).trans (Ef.set _ 3 _)).trans (Ef.ofBelow (C := b) (below_drewN _ _))
/-- What the reader's rest answers. -/
def ReP (w0 w : World) (b C1 C2 : Nat) (ao : Option Addr) (cap : Nat) (T : Tb) (xs : List Int) (i n : Nat) (e : Ending) (w' : World) : Prop :=
  ((∃ a c, (n : Int) ≤ (xs.length : Int) - i ∧ e = .returned (.tuple #[.slice a n c, .bool true]) ∧ View .i64 w0 a n ((xs.drop i).take n) ∧ RS w0 w' b C1 C2 ao cap T xs (i + n)) ∨ ((xs.length : Int) - i < n ∧ e = .returned (.tuple #[.slice none 0 0, .bool false]) ∧ RS w0 w' b C1 C2 ao cap T xs i)) ∧ Ef b w w'

set_option maxRecDepth 100000 in
set_option maxHeartbeats 1600000 in
theorem rd_rest (w0 w : World) (b C1 C2 : Nat) (ao : Option Addr) (cap : Nat) (T : Tb) (xs : List Int) (i n : Nat) (hn : n ≤ 1000) (h : RS w0 w b C1 C2 ao cap T xs i) :
    Calls Try.prog 102 #[.pointer (some ⟨b, 0, none⟩), .int .i64 n] w (ReP w0 w b C1 C2 ao cap T xs i n) := by
  have HRS := hid h
  obtain ⟨q0, q1, q2, q3⟩ := h.2.2.2.1.cells
  have z3 := h.2.2.2.1.free 3
  have hil := h.1.2.1
  have hxl := h.1.2.2.1
  have hsl := h.1.2.2.2
  clear h
  by_cases hlt : (xs.length : Int) - i < n
  · have HLT := hid hlt
    clear hsl
    go_enter Try.func102, Try.ntmps102
    go_wp2_with fail
    go_quiet (fail)
    go_wp2_with fail
    go_ret2
    exact ⟨.inr ⟨HLT.out, rfl, HRS.out.below (below_drewN _ _)⟩, Ef.ofBelow (below_drewN _ _)⟩
  · have HLT := hid hlt
    have hin : i + n ≤ xs.length := by omega
    have HM := hid (HRS.out.move (i + n) hin)
    have HE := hid (Ef.set (C := b) w 3 (.int .i64 ((i + n : Nat) : Int)))
    have hcast : ((i + n : Nat) : Int) = (i : Int) + n := by omega
    rw [hcast] at HM HE
    obtain ⟨r0, r1, r2, r3⟩ := HM.out.2.2.2.1.cells
    have hsub : (i : Int) + n - n = i := by omega
    have HC := hid hcast
    have hile : (i : Int) ≤ (i : Int) + n := by omega
    have hi0 : (0 : Int) ≤ (i : Int) + n := by omega
    clear hcast
    rcases hsl with ⟨rfl, hx0, hc0⟩ | ⟨blk, off, rfl, hcap⟩
    · have hi00 : i = 0 := by omega
      have hn00 : n = 0 := by omega
      subst hi00
      subst hn00
      have HX0 := hid hx0
      clear hin hil hlt
      go_enter Try.func102, Try.ntmps102
      go_wp2_with fail
      go_quiet (fail)
      go_wp2_with fail
      go_quiet (fail)
      go_wp2_with fail
      go_ret2
      refine ⟨.inl ⟨none, 0, HLT.out, rfl, ⟨by simp, fun j hj => absurd hj (by omega)⟩, ?_⟩, ?_⟩
      · exact ((HRS.out.below (below_drewN _ _)).move 0 (by omega)).below (below_drewN _ _)
      · exact ((Ef.ofBelow (C := b) (below_drewN _ _)).trans (Ef.set _ 3 _)).trans (Ef.ofBelow (C := b) (below_drewN _ _))
    · have hcap' : (i : Int) + n ≤ (cap : Int) := by omega
      have HVS := hid ((HRS.out.view).sub i n hin)
      go_enter Try.func102, Try.ntmps102
      go_wp2_with fail
      go_quiet (fail)
      go_wp2_with fail
      go_quiet (fail)
      go_wp2_with fail
      · go_ret2
        have hn0 : n = 0 := by omega
        subst h
        exact ⟨.inl ⟨some ⟨blk, off, none⟩, 0, HLT.out, rfl, ⟨by simp; omega, fun j hj => absurd hj (by omega)⟩, HRS.out.moved hin HC.out _ _⟩, Ef.moved _ _ _ _⟩
      · go_ret2
        refine ⟨.inl ⟨some ⟨blk, off + i, none⟩, cap - i, HLT.out, rfl, ?_, HRS.out.moved hin HC.out _ _⟩, Ef.moved _ _ _ _⟩
        exact HRS.out.2.2.1.sub i n hin
end Go.Proofs.Ytcikmgdfelejpaa
