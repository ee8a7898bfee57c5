/- Contracts of the program's open disk: slices.Clone, openSafe, write, openWhole, read, readAll. -/
import Derived.Test.YtphhgfgmlfdkiaaMp
import Derived.Test.YtphhgfgmlfdkiaaOk
import Derived.Lib.SliceRun
import Derived.Carry
namespace Go.Proofs.Ytphhgfgmlfdkiaa
open Go.RowKit
set_option linter.unusedVariables false

set_option maxRecDepth 100000 in
set_option maxHeartbeats 1600000 in
theorem clone_s (ao : Option Addr) (cap : Nat) (S : List ByteArray) (w : World) (hn : S.length ≤ 1048576) (hv : Rw w ao (encS S)) (hp : Pc ao S.length cap) :
    Calls Try.prog 72 #[.slice ao S.length cap] w fun e w' => ∃ v', e = .returned v' ∧ OwG w' w.heap.size 9 1 v' S.length (encS S) ∧ Below w.heap.size w w' := by
  have q24 : ∀ (w : World) (a : Option Addr) (n c n' c' : Nat), (binOp .eql 24 (.slice a n c) (.slice none n' c')).run Try.prog w = .ok (.bool a.isNone) w := fun w a n c n' c' => Lib.run_eql_slice_nil w _ _ a n c n' c' Try.underlying24
  rcases hp with ⟨rfl, h0, rfl⟩ | ⟨blk, off, rfl⟩
  · have hxs : S = [] := List.length_eq_zero_iff.1 h0
    subst hxs
    clear hv
    go_enter Try.func72, Try.ntmps72
    go_wp2_with fail
    go_ret
    exact ⟨_, rfl, OwG.nil _ _ _ _ (Nat.le_refl _), Below.refl _ _⟩
  · have HO0 := hid (OwG.empty w w.heap.size 9 1 (Nat.le_refl _))
    have HB0 := hid ((Below.refl w.heap.size w).alloc (Nat.le_refl _) (.cells #[] 9))
    have HV0 := hid (hv.below (Nat.le_refl _) HB0.out)
    have hlen : 0 + S.length < 1000000000 := by omega
    have HYO : Hid (Pc (some ⟨blk, off, none⟩) S.length cap) := hid (.inr ⟨_, _, rfl⟩)
    clear hv
    go_enter Try.func72, Try.ntmps72
    go_wp2_with (at_builtin; refine wpList_appG _ rfl _ _ 24 rfl w.heap.size 9 (.string ByteArray.empty) 1 16 Try.underlying24 Try.info9 rfl (by decide) _ 0 _ rfl HO0.out (some ⟨blk, off, none⟩) S.length cap (encS S) rfl (encS_len S) HV0.out HYO.out (encS_one S) hlen (by decide) ?_)
    intro v3 w3 hown3 hb3 _
    have HO3 := hid hown3
    have HB3 := hid (HB0.out.trans hb3)
    obtain ⟨ao3, cap3, rfl, _, _⟩ := hown3.shape
    clear hown3 hb3
    go_wp2_with fail
    go_ret
    refine ⟨_, rfl, ?_, HB3.out⟩
    simpa using HO3.out

set_option maxRecDepth 100000 in
set_option maxHeartbeats 1600000 in
theorem clone_w (ao : Option Addr) (cap : Nat) (L : List (Int × ByteArray)) (w : World) (hn : L.length ≤ 1048576) (hv : Rw w ao (encW L)) (hp : Pc ao L.length cap) :
    Calls Try.prog 73 #[.slice ao L.length cap] w fun e w' => ∃ v', e = .returned v' ∧ OwG w' w.heap.size 69 2 v' L.length (encW L) ∧ Below w.heap.size w w' := by
  have q25 : ∀ (w : World) (a : Option Addr) (n c n' c' : Nat), (binOp .eql 25 (.slice a n c) (.slice none n' c')).run Try.prog w = .ok (.bool a.isNone) w := fun w a n c n' c' => Lib.run_eql_slice_nil w _ _ a n c n' c' Try.underlying25
  rcases hp with ⟨rfl, h0, rfl⟩ | ⟨blk, off, rfl⟩
  · have hxs : L = [] := List.length_eq_zero_iff.1 h0
    subst hxs
    clear hv
    go_enter Try.func73, Try.ntmps73
    go_wp2_with fail
    go_ret
    exact ⟨_, rfl, OwG.nil _ _ _ _ (Nat.le_refl _), Below.refl _ _⟩
  · have HO0 := hid (OwG.empty w w.heap.size 69 2 (Nat.le_refl _))
    have HB0 := hid ((Below.refl w.heap.size w).alloc (Nat.le_refl _) (.cells #[] 69))
    have HV0 := hid (hv.below (Nat.le_refl _) HB0.out)
    have hlen : 0 + L.length < 1000000000 := by omega
    have HYO : Hid (Pc (some ⟨blk, off, none⟩) L.length cap) := hid (.inr ⟨_, _, rfl⟩)
    clear hv
    go_enter Try.func73, Try.ntmps73
    go_wp2_with (at_builtin; refine wpList_appG _ rfl _ _ 25 rfl w.heap.size 69 (.agg #[.int .i64 0, .string ByteArray.empty]) 2 24 Try.underlying25 Try.info69 rfl (by decide) _ 0 _ rfl HO0.out (some ⟨blk, off, none⟩) L.length cap (encW L) rfl (encW_len L) HV0.out HYO.out (encW_one L) hlen (by decide) ?_)
    intro v3 w3 hown3 hb3 _
    have HO3 := hid hown3
    have HB3 := hid (HB0.out.trans hb3)
    obtain ⟨ao3, cap3, rfl, _, _⟩ := hown3.shape
    clear hown3 hb3
    go_wp2_with fail
    go_ret
    refine ⟨_, rfl, ?_, HB3.out⟩
    simpa using HO3.out

set_option maxRecDepth 100000 in
set_option maxHeartbeats 1600000 in
theorem open_safe (v : Value) (S : List ByteArray) (L : List (Int × ByteArray)) (w : World) (hn : S.length ≤ 1048576) (hv : DP w v S L) :
    Calls Try.prog 74 #[v] w fun e w' => ∃ va b, e = .returned (.agg #[va, .map (some b)]) ∧ OwG w' w.heap.size 9 1 va S.length (encS S) ∧ MapW w' b 0 (fun _ => none) ∧ w.heap.size ≤ b ∧ Below w.heap.size w w' := by
  obtain ⟨a, c, a', c', rfl, r1, r2, p1, p2⟩ := hv
  obtain ⟨n1, n2, n3⟩ := new_two w [.slice a S.length c, .slice a' L.length c'] [.slice none 0 0, .map none] 27 78
  have N2 := hid n2
  have N3 := hid n3
  have HC := hid (clone_s a c S _ hn (r1.below (Nat.le_refl _) n3) p1)
  clear r1 r2 p1 p2 n1 n2 n3
  have hmm := @run_makeMap Try.prog
  go_enter Try.func74, Try.ntmps74
  go_wp2_with fail
  refine HC.out.mono ?_
  clear HC
  generalize (w.alloc _).alloc _ = wa at *
  rintro e w1 ⟨va, rfl, ho, hb⟩
  obtain ⟨ao, cap, rfl, _, _⟩ := ho.shape
  have hsz : w.heap.size ≤ w1.heap.size := Nat.le_trans N3.out.size hb.size
  have hltw := N2.out.lt
  have K := N2.out.below hb N2.out.lt
  have hklt := K.lt
  have c0 := (K.alloc (.map #[] 0)).cell (i := 0) rfl
  have c1 := (K.alloc (.map #[] 0)).cell (i := 1) rfl
  have f0 := (K.alloc (.map #[] 0)).free 0
  have f1 := (K.alloc (.map #[] 0)).free 1
  have k0 := K.cell (i := 0) rfl
  have k1 := K.cell (i := 1) rfl
  have l0 := K.free 0
  have l1 := K.free 1
  have F := ((K.set 0 (.slice ao S.length cap)).set 1 (.map (some w1.heap.size))).alloc (.map #[] 0)
  have z0 := F.cell (i := 0) rfl
  have z1 := F.cell (i := 1) rfl
  have HO := hid ((((ho.setCell_below (a := ⟨w.heap.size + 1, 0, none⟩) hltw (.slice ao S.length cap)).setCell_below (a := ⟨w.heap.size + 1, 1, none⟩) hltw (.map (some w1.heap.size))).alloc (.map #[] 0)).mono N3.out.size)
  have HM : Hid (MapW (((w1.setCell ⟨w.heap.size + 1, 0, none⟩ (.slice ao S.length cap)).setCell ⟨w.heap.size + 1, 1, none⟩ (.map (some w1.heap.size))).alloc (.map #[] 0)) w1.heap.size 0 (fun _ => none)) := hid (by
    have := MapW.made ((w1.setCell ⟨w.heap.size + 1, 0, none⟩ (.slice ao S.length cap)).setCell ⟨w.heap.size + 1, 1, none⟩ (.map (some w1.heap.size)))
    have e : ((w1.setCell ⟨w.heap.size + 1, 0, none⟩ (.slice ao S.length cap)).setCell ⟨w.heap.size + 1, 1, none⟩ (.map (some w1.heap.size))).heap.size = w1.heap.size := by simp [World.setCell]
    rw [e] at this
    exact this)
  have HB0 := ((N3.out.trans (hb.mono N3.out.size)).setCell (p := ⟨w.heap.size + 1, 0, none⟩) (by show w.heap.size ≤ w.heap.size + 1; omega) (.slice ao S.length cap)).setCell (p := ⟨w.heap.size + 1, 1, none⟩) (by show w.heap.size ≤ w.heap.size + 1; omega) (.map (some w1.heap.size))
  have HB := hid (HB0.alloc HB0.size (.map #[] 0))
  clear ho hb K F HB0
  go_wp2_with fail
  refine bodyPost_ret (v := .agg #[.slice ao S.length cap, .map (some w1.heap.size)]) (by simp [results, Try.results74, go_sem, z0, z1]) rfl ⟨_, _, rfl, HO.out, HM.out, hsz, HB.out⟩

set_option maxRecDepth 100000 in
set_option maxHeartbeats 1600000 in
theorem od_write (ao : Option Addr) (n c b m : Nat) (f : Int → Option (Int × ByteArray)) (x : Int) (s : ByteArray) (w : World) (hm : m < 1000000000) (hx : (Lit.int .i64 x).wf = true) (h : MapW w b m f) :
    Calls Try.prog 75 #[.agg #[.slice ao n c, .map (some b)], .agg #[.int .i64 x, .string s]] w fun e w' => e = .returned (.tuple #[]) ∧ MapW w' b (m + 1) (updF f x (x, s)) ∧ w.grownBy w' (some b) := by
  obtain ⟨n1, n2, n3⟩ := new_two w [.slice ao n c, .map (some b)] [.int .i64 x, .string s] 78 69
  have HM := hid ((h.alloc (.cells #[.slice ao n c, .map (some b)] 78)).alloc (.cells #[.int .i64 x, .string s] 69))
  have HG : Hid (w.grownBy ((w.alloc (.cells #[.slice ao n c, .map (some b)] 78)).alloc (.cells #[.int .i64 x, .string s] 69)) (some b)) := hid ⟨n3.os, n3.tape, n3.output, n3.size, fun k hk _ => n3.block k hk⟩
  have q0 := n1.cell (i := 0) rfl
  have q1 := n1.cell (i := 1) rfl
  have q2 := n2.cell (i := 0) rfl
  have q3 := n2.cell (i := 1) rfl
  clear n1 n2 n3 h
  go_enter Try.func75, Try.ntmps75
  go_wp2_with (at_mapUpdate; refine wpList_storeW _ rfl _ _ _ rfl b m f rfl HM.out hm x (x, s) rfl rfl hx ?_)
  intro w1 hm1 ht1
  have HM1 := hid hm1
  have HG1 := hid (HG.out.trans ht1.grown)
  clear hm1 ht1
  go_wp2_with fail
  go_end0
  exact ⟨rfl, HM1.out, HG1.out⟩

/-- The newest of the first k writes of each sector. -/
def mpTo (L : List (Int × ByteArray)) : Nat → Int → Option (Int × ByteArray)
  | 0 => fun _ => none
  | k + 1 => updF (mpTo L k) (lAt L k).1 (lAt L k)
theorem grown_below {w w' : World} {B b : Nat} (h : w.grownBy w' (some b)) (hb : B ≤ b) (hB : B ≤ w.heap.size) : Below B w w' :=
  ⟨h.os, h.tape, h.output, h.size, fun k hk => h.block k (Nat.lt_of_lt_of_le hk hB) (fun e => by have := Option.some.inj e; omega)⟩
theorem MapW.ne {w : World} {b n : Nat} {f : Int → Option (Int × ByteArray)} (h : MapW w b n f) {g : Nat} {l : List Value} {t : TypeId} (k : Blk w g l t) : g ≠ b := by
  intro e
  subst e
  obtain ⟨D, ⟨es, clock, hb, _⟩, _⟩ := h
  unfold Blk at k
  rw [k] at hb
  cases hb
theorem MapW.neO {w : World} {b n : Nat} {f : Int → Option (Int × ByteArray)} (h : MapW w b n f) {base e sz : Nat} {v : Value} {m : Nat} {cs : List Value} (k : OwG w base e sz v m cs) (g : Nat) (hg : v.ownBlock = some g) : some g ≠ some b := by
  intro e
  have e' := Option.some.inj e
  subst e'
  obtain ⟨D, ⟨es, clock, hb, _⟩, _⟩ := h
  rcases k.2.2 with ⟨hv, _⟩ | ⟨g1, cap, cur, hv, _, hh, _⟩
  · rw [hv] at hg; simp [Value.ownBlock] at hg
  · rw [hv] at hg
    simp only [Value.ownBlock, Option.some.injEq] at hg
    subst hg
    rw [hh] at hb
    cases hb

set_option maxRecDepth 100000 in
set_option maxHeartbeats 1600000 in
theorem open_whole (v : Value) (S : List ByteArray) (L : List (Int × ByteArray)) (w : World) (hok : DOk S L) (hv : DP w v S L) :
    Calls Try.prog 48 #[v] w fun e w' => ∃ va b, e = .returned (.agg #[va, .map (some b)]) ∧ OwG w' w.heap.size 9 1 va S.length (encS S) ∧ MapW w' b L.length (mpTo L L.length) ∧ w.heap.size ≤ b ∧ Below w.heap.size w w' := by
  have HOK := hid hok
  have hm1 : L.length ≤ 3000 := hok.1.2
  have hn1 : S.length ≤ 1500 := hok.1.1
  obtain ⟨a, c, a', c', e0, r1, r2, p1, p2⟩ := id hv
  subst e0
  obtain ⟨n1, n2, n3⟩ := new_two w [.slice a S.length c, .slice a' L.length c'] [.slice none 0 0, .map none] 27 78
  have N1 := hid n1
  have N2 := hid n2
  have N3 := hid n3
  have R2 := hid r2
  have HC := hid (open_safe _ S L _ (by omega) (hv.below (Nat.le_refl _) n3))
  clear r1 r2 p1 p2 n1 n2 n3 hv hok
  have q0 := N1.out.cell (i := 0) rfl
  have q1 := N1.out.cell (i := 1) rfl
  go_enter Try.func48, Try.ntmps48
  go_wp2_with fail
  clear q0 q1
  refine HC.out.mono ?_
  clear HC
  generalize (w.alloc _).alloc _ = wa at *
  rintro e w1 ⟨va, b, rfl, ho, hm, hbb, hb⟩
  obtain ⟨ao, cap, rfl, _, _⟩ := ho.shape
  have hwa := N2.out.lt
  have hb2 := hb.alloc hb.size (.cells #[.slice ao S.length cap, .map (some b)] 78)
  have M1 := hid (N1.out.below hb2 N1.out.lt)
  have M2 := hid (N2.out.below hb2 N2.out.lt)
  have M3 := hid (N3.out.trans (hb2.mono N3.out.size))
  have O := hid (Blk.new w1 [.slice ao S.length cap, .map (some b)] 78)
  have HO := hid (ho.alloc (.cells #[.slice ao S.length cap, .map (some b)] 78))
  have HM := hid (hm.alloc (.cells #[.slice ao S.length cap, .map (some b)] 78))
  have hw1 := hb.size
  have q1 := M1.out.cell (i := 1) rfl
  clear ho hm hb hb2 N1 N2 N3
  generalize hG : w1.heap.size = g at *
  generalize hN : S.length = n at *
  generalize hM : L.length = m at *
  have HNN := hid hN
  have HMM := hid hM
  clear hN hM
  go_wp2_with fail
  clear q1
  generalize w1.alloc (.cells #[.slice ao n cap, .map (some b)] 78) = w2 at *
  go_loopw [11] (fun i wr => ∃ k : Nat, k ≤ m ∧ i = .int .i64 k ∧ Hid (MapW wr b k (mpTo L k)) ∧ Hid (w2.grownBy wr (some b))) (fun i _ => m - (intOf i).toNat)
  case atStart => exact ⟨0, by omega, rfl, HM.out, World.grownBy.refl _ _⟩
  case round =>
    obtain ⟨k, hk, rfl, hmap, hgr⟩ := hrel
    have HB := hid (grown_below hgr.out (show w.heap.size ≤ b by omega) (by have := M3.out.size; omega))
    have O2 := hid (O.out.kept hgr.out (fun e => HM.out.ne O.out (Option.some.inj e)))
    have M22 := hid (M2.out.kept hgr.out (fun e => HM.out.ne M2.out (Option.some.inj e)))
    by_cases hlt : k < m
    · obtain ⟨bl, off, rfl, hc1, hc2⟩ := (R2.out.below (Nat.le_refl _) (M3.out.trans HB.out)).atW k (by rw [HMM.out]; exact hlt)
      have hlt' : (k : Int) < (m : Int) := by omega
      have HS := hid (HOK.out.2.2 k (by rw [HMM.out]; exact hlt)).1
      have HMN := hid (show mpTo L (k + 1) = updF (mpTo L k) (lAt L k).1 (lAt L k) from rfl)
      generalize lAt L k = X at *
      obtain ⟨x, s⟩ := X
      simp only at hc1 hc2
      have hx : (Lit.int .i64 x).wf = true := by
        have := of_decide_eq_true HS.out
        rw [HNN.out] at this
        simp only at this
        exact WalkArith.wf_i64 (by omega)
      have HW := hid (od_write ao n cap b k (mpTo L k) x s (wr.alloc (.cells #[.int .i64 x, .string s] 69)) (by omega) hx (hmap.out.alloc _))
      have HA := hid (World.grownBy_alloc wr (.cells #[.int .i64 x, .string s] 69) (some b))
      have o0 := (O2.out.alloc (.cells #[.int .i64 x, .string s] 69)).cell (i := 0) rfl
      have o1 := (O2.out.alloc (.cells #[.int .i64 x, .string s] 69)).cell (i := 1) rfl
      have t := Blk.new wr [.int .i64 x, .string s] 69
      have t0 := t.cell (i := 0) rfl
      have t1 := t.cell (i := 1) rfl
      clear t hx
      go_wp2_with fail
      refine HW.out.mono ?_
      rintro e w3 ⟨rfl, hm3, hg3⟩
      have HM3 := hid hm3
      have HG3 := hid ((hgr.out.trans HA.out).trans hg3)
      clear hm3 hg3 o0 o1 t0 t1
      go_wp2_with fail
      go_roundw
      case rel => exact ⟨k + 1, by omega, by go_num, by rw [HMN.out]; exact HM3.out, HG3.out⟩
      case measure => simp [intOf]; omega
    · obtain rfl : k = m := by omega
      have o0 := O2.out.cell (i := 0) rfl
      have o1 := O2.out.cell (i := 1) rfl
      have c0 := M22.out.cell (i := 0) rfl
      have c1 := M22.out.cell (i := 1) rfl
      have f0 := M22.out.free 0
      have f1 := M22.out.free 1
      have hne := hmap.out.ne M22.out
      have HO2 := hid (HO.out.kept hgr.out (HM.out.neO HO.out))
      go_wp2_with fail
      refine bodyPost_ret (v := .agg #[.slice ao n cap, .map (some b)]) (by simp [results, Try.results48, go_sem, c0, c1]) rfl ⟨_, _, rfl, ?_, ?_, ?_, ?_⟩
      · rw [HNN.out]
        exact ((HO2.out.setCell_below (a := ⟨w.heap.size + 1, 0, none⟩) hwa _).setCell_below (a := ⟨w.heap.size + 1, 1, none⟩) hwa _).mono (by omega)
      · rw [HMM.out]
        exact (hmap.out.setCell (a := ⟨w.heap.size + 1, 0, none⟩) (fun e => hne e.symm) _).setCell (a := ⟨w.heap.size + 1, 1, none⟩) (fun e => hne e.symm) _
      · omega
      · exact ((M3.out.trans HB.out).setCell (p := ⟨w.heap.size + 1, 0, none⟩) (by show w.heap.size ≤ w.heap.size + 1; omega) _).setCell (p := ⟨w.heap.size + 1, 1, none⟩) (by show w.heap.size ≤ w.heap.size + 1; omega) _

/-- What is read of a sector, by a map and by what is safe. -/
def rdF (f : Int → Option (Int × ByteArray)) (S : List ByteArray) (i : Int) : ByteArray := match f i with
  | some x => x.2
  | none => sAt S i.toNat
theorem rdF_some {f : Int → Option (Int × ByteArray)} {S : List ByteArray} {i : Int} {x : Int × ByteArray} (h : f i = some x) : rdF f S i = x.2 := by unfold rdF; rw [h]
theorem rdF_none {f : Int → Option (Int × ByteArray)} {S : List ByteArray} {i : Int} (h : f i = none) : rdF f S i = sAt S i.toNat := by unfold rdF; rw [h]

set_option maxRecDepth 100000 in
set_option maxHeartbeats 1600000 in
theorem od_read (ao : Option Addr) (c b m : Nat) (S : List ByteArray) (f : Int → Option (Int × ByteArray)) (k : Nat) (w : World) (hk : k < S.length) (hn : S.length ≤ 1500) (hr : Rw w ao (encS S)) (h : MapW w b m f) :
    Calls Try.prog 79 #[.agg #[.slice ao S.length c, .map (some b)], .int .i64 k] w fun e w' => e = .returned (.string (rdF f S k)) ∧ Below w.heap.size w w' := by
  have hki : (Lit.int .i64 (k : Int)).wf = true := WalkArith.wf_i64 (by omega)
  have HM := hid (h.alloc (.cells #[.slice ao S.length c, .map (some b)] 78))
  have HN := hid (Blk.new w [.slice ao S.length c, .map (some b)] 78)
  have HB := hid ((Below.refl w.heap.size w).alloc (Nat.le_refl _) (.cells #[.slice ao S.length c, .map (some b)] 78))
  have HR := hid (hr.below (Nat.le_refl _) HB.out)
  clear h hr
  cases hf : f (k : Int) with
  | some x =>
    obtain ⟨x, s⟩ := x
    have HRD := hid (rdF_some (S := S) hf)
    have HGT : Hid (gtF f (k : Int) = (x, s)) := hid (by unfold gtF; rw [hf]; rfl)
    have HIS : Hid ((f (k : Int)).isSome = true) := hid (by rw [hf]; rfl)
    generalize rdF f S (k : Int) = R at *
    generalize hN : S.length = n at *
    have HNN := hid hN
    clear hN hf
    go_enter Try.func79, Try.ntmps79
    go_wp2_with (at_lookup; refine wpList_lookW _ rfl _ _ rfl b m f rfl HM.out (k : Int) rfl hki x s true HGT.out HIS.out ?_)
    have HB2 := hid (HB.out.alloc HB.out.size (.cells #[.int .i64 x, .string s] 69))
    clear HM HN HR
    go_wp2_with fail
    go_ret
    exact ⟨ret_str HRD.out.symm, HB2.out⟩
  | none =>
    have HRD := hid (rdF_none (S := S) hf)
    have HGT : Hid (gtF f (k : Int) = (0, ByteArray.empty)) := hid (by unfold gtF; rw [hf]; rfl)
    have HIS : Hid ((f (k : Int)).isSome = false) := hid (by rw [hf]; rfl)
    obtain ⟨bl, off, rfl, hc⟩ := HR.out.atS k hk
    rw [Int.toNat_natCast] at HRD
    generalize sAt S k = X at *
    generalize rdF f S (k : Int) = R at *
    have HB3 := hid (HB.out.alloc HB.out.size (.cells #[.int .i64 0, .string ByteArray.empty] 69))
    have hA := (Below.refl _ (w.alloc (.cells #[.slice (some ⟨bl, off, none⟩) S.length c, .map (some b)] 78))).alloc (Nat.le_refl _) (.cells #[.int .i64 0, .string ByteArray.empty] 69)
    have hc2 := (hA.cell (p := ⟨bl, off + k, none⟩) (World.block_lt_of_cell? _ _ hc)).trans hc
    have hk' : (k : Int) < (S.length : Int) := by omega
    clear hf hA
    go_enter Try.func79, Try.ntmps79
    go_wp2_with (at_lookup; refine wpList_lookW _ rfl _ _ rfl b m f rfl HM.out (k : Int) rfl hki 0 ByteArray.empty false HGT.out HIS.out ?_)
    go_wp2_with fail
    go_ret
    exact ⟨ret_str HRD.out.symm, HB3.out⟩
end Go.Proofs.Ytphhgfgmlfdkiaa
