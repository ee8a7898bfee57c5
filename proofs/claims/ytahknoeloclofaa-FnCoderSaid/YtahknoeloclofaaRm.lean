/- The contract of the program's ReadAll. -/
import Derived.Test.YtahknoeloclofaaRr
import Derived.Test.YtahknoeloclofaaMk
namespace Go.Proofs.Ytahknoeloclofaa
open Go.RowKit
set_option linter.unusedVariables false

theorem Own.set5 {w : World} {base G : Nat} {v : Value} {xs : List Int} (h : Own w base 3 .i64 v xs) (hG : G < base) (a b c d e : Value) (o : Obj) : Own ((((((w.setCell ⟨G, 0, none⟩ a).setCell ⟨G, 1, none⟩ b).setCell ⟨G, 2, none⟩ c).setCell ⟨G, 3, none⟩ d).setCell ⟨G, 4, none⟩ e).alloc o) base 3 .i64 v xs :=
  (((((h.setCell_below (a := ⟨G, 0, none⟩) hG a).setCell_below (a := ⟨G, 1, none⟩) hG b).setCell_below (a := ⟨G, 2, none⟩) hG c).setCell_below (a := ⟨G, 3, none⟩) hG d).setCell_below (a := ⟨G, 4, none⟩) hG e).alloc o
theorem Blk.set5 {w : World} {G : Nat} {a b c d e a' b' c' d' e' : Value} {t : TypeId} (h : Blk w G [a', b', c', d', e'] t) (o : Obj) : Blk ((((((w.setCell ⟨G, 0, none⟩ a).setCell ⟨G, 1, none⟩ b).setCell ⟨G, 2, none⟩ c).setCell ⟨G, 3, none⟩ d).setCell ⟨G, 4, none⟩ e).alloc o) G [a, b, c, d, e] t := by
  have h1 := ((((h.set 0 a).set 1 b).set 2 c).set 3 d).set 4 e
  exact h1.below ((Below.refl _ _).alloc (Nat.le_refl _) o) h1.lt
theorem below_set5 {w0 w : World} {B G : Nat} (h : Below B w0 w) (hG : B ≤ G) (hs : B ≤ w.heap.size) (a b c d e : Value) (o : Obj) : Below B w0 ((((((w.setCell ⟨G, 0, none⟩ a).setCell ⟨G, 1, none⟩ b).setCell ⟨G, 2, none⟩ c).setCell ⟨G, 3, none⟩ d).setCell ⟨G, 4, none⟩ e).alloc o) := by
  have h1 := ((((h.setCell (p := ⟨G, 0, none⟩) hG a).setCell (p := ⟨G, 1, none⟩) hG b).setCell (p := ⟨G, 2, none⟩) hG c).setCell (p := ⟨G, 3, none⟩) hG d).setCell (p := ⟨G, 4, none⟩) hG e
  exact h1.alloc (by simpa using hs) o
/-- 'append(out, y)', the new block's number told by whatever term. -/
theorem wpList_pushg {P : Program} {ops : Array Oper} {rest : List Oper} {o : Oper} {a : Act} {Q : Exit → Act → World → Prop} (w : World) (g : Nat) (hgs : w.heap.size = g) (hgd : o.guard = none) (s x : Operand) (t : TypeId)
    (ho : o.op = .call { callee := .builtin .append, args := #[s, x], argTypes := #[t, t] })
    (base : Nat) (e : TypeId) (k : IntKind) (z : Int) (bytes : Nat) (ht : P.underlying t = some (.slice e)) (hinfo : (P.info? e).map (fun i => (i.zero, i.size, i.bytes)) = some (some (.int k z), 1, bytes))
    (v : Value) (xs : List Int) (hs : a.eval s = v) (hown : Own w base e k v xs) (y : Int) (hx : a.eval x = .slice (some ⟨g, 0, none⟩) 1 1)
    (hlen : xs.length < 1000000000000) (hbytes : bytes ≤ 8)
    (h : ∀ v' w', Own w' base e k v' (xs ++ [y]) → Below base w w' → wpList P ops Q rest (a.put o.dst v') w') : wpList P ops Q (o :: rest) a (w.alloc (.cells #[.int k y] e)) := by
  subst hgs
  exact wpList_push w hgd s x t ho base e k z bytes ht hinfo v xs hs hown y hx hlen hbytes h
theorem rRes_yes {r : RSt} {s : ByteArray} {p : Int} (h : okG r p = true) : rRes r.lo r.hi r.co s r.at' p = .tuple #[rV (rNext s r p).lo (rNext s r p).hi (rNext s r p).co s (rNext s r p).at', .int .i64 (rBit r.lo r.hi r.co p)] := by
  have h' : okGet r.lo r.hi r.at' p = true := h
  unfold rRes
  rw [if_pos h']
  rfl
theorem rRes_no {r : RSt} {s : ByteArray} {p : Int} (h : okG r p = false) : rRes r.lo r.hi r.co s r.at' p = .tuple #[rV r.lo r.hi r.co s r.at', .int .i64 (-1)] := by
  have h' : okGet r.lo r.hi r.at' p = false := h
  unfold rRes
  rw [if_neg (by rw [h']; decide)]
/-- What stands in the loop of ReadAll. -/
def RI (s : ByteArray) (ps : List Int) (k : Nat) (o : List Int) (r : RSt) : Prop := rAt s ps k = some (o, r) ∧ RK r ∧ o.length = k
theorem RI.zero (s : ByteArray) (ps : List Int) : RI s ps 0 [] ⟨0, 4294967295, code0 s, 4⟩ := ⟨rfl, ⟨(show W32 0 from ⟨by decide, by decide⟩), (show W32 4294967295 from ⟨by decide, by decide⟩), code0_word s⟩, rfl⟩
theorem RI.next {s : ByteArray} {ps : List Int} {k : Nat} {o : List Int} {r : RSt} (h : RI s ps k o r) (hg : okG r (ps.getD k 0) = true) : RI s ps (k + 1) (o ++ [rBit r.lo r.hi r.co (ps.getD k 0)]) (rNext s r (ps.getD k 0)) :=
  ⟨rAt_some h.1 hg, h.2.1.next, by simp [h.2.2]⟩
/-- What ReadAll answers behind its first test. -/
def readY (q : Option (List Int × RSt)) : List Int × Bool := match q with | none => ([], false) | some (o, _) => (o, true)

set_option maxRecDepth 100000 in
set_option maxHeartbeats 3200000 in
theorem impl_read_yes (s : ByteArray) (bo : Option Addr) (cap n : Nat) (ps : List Int) (w : World) (hs : s.size ≤ 1048576) (hn : n ≤ 480000) (hu : View .i64 w bo n ps) :
    Calls Try.prog 13 #[.string s, .slice bo n cap] w fun e w' => ∃ v, e = .returned (.tuple #[v, .bool (readY (rAt s ps n)).2]) ∧ Own w' w.heap.size 3 .i64 v (readY (rAt s ps n)).1 ∧ Below w.heap.size w w' := by
  have HS := hid (impl_rstart s w hs)
  have HU := hid hu
  have h1 : ¬ (480000 : Int) < (n : Int) := by omega
  have HN := hid hn
  obtain ⟨R, hR⟩ : ∃ R, readY (rAt s ps n) = R := ⟨_, rfl⟩
  have HR := hid hR
  rw [hR]
  obtain ⟨RL, RB⟩ := R
  have HZ := hid (RI.zero s ps)
  generalize code0 s = C0 at *
  clear hu hn hR hs
  unfold rV at HS
  go_enter Try.func13, Try.ntmps13
  go_wp2_with fail
  refine HS.out.mono ?_
  rintro e w1 ⟨rfl, hb1⟩
  have hz := hid ((Below.refl w1.heap.size w1).alloc (Nat.le_refl _) (.cells #[.int .u32 0, .int .u32 4294967295, .int .u32 C0, .string s, .int .i64 4] 48))
  have B1 := hid (hb1.trans (hz.out.mono hb1.size))
  have R1 := hid (Blk.new w1 [.int .u32 0, .int .u32 4294967295, .int .u32 C0, .string s, .int .i64 4] 48)
  have hG := hid hb1.size
  have hW1 : w1.heap.size + 1 ≤ (w1.alloc (.cells #[.int .u32 0, .int .u32 4294967295, .int .u32 C0, .string s, .int .i64 4] 48)).heap.size := by simp
  clear hb1 hz HS
  go_wp2_with (at_make; refine wpList_mk0 _ rfl _ _ 24 rfl (w1.heap.size + 1) 3 .i64 0 8 Try.underlying24 Try.info3 _ _ n rfl rfl (by have := HN.out; omega) (by decide) hW1 ?_)
  generalize w1.alloc (.cells #[.int .u32 0, .int .u32 4294967295, .int .u32 C0, .string s, .int .i64 4] 48) = W1 at *
  generalize w1.heap.size = G at *
  intro w2 hO2 hb2
  have R2 := hid (R1.out.below hb2 (Nat.lt_succ_self G))
  have B2 := hid (B1.out.trans (hb2.mono (Nat.le_succ_of_le hG.out)))
  have O2 := hid hO2
  clear hb2 hO2 R1 B1 hW1
  go_wp2_with fail
  go_loopw [7, 23] (fun v i wr => ∃ (k : Nat) (o : List Int) (r : RSt), k ≤ n ∧ i = .int .i64 k ∧ Hid (RI s ps k o r) ∧ Blk wr G (rCs r.lo r.hi r.co s r.at') 48 ∧ Own wr (G + 1) 3 .i64 v o ∧ Below w.heap.size w wr) (fun _ i _ => n - (intOf i).toNat)
  case atStart => exact ⟨0, [], _, by omega, rfl, HZ.out, R2.out, O2.out, B2.out⟩
  case round =>
    obtain ⟨k, o, r, hk, rfl, hrec, hBk, hOw, hBe⟩ := hrel
    clear R2 O2 B2 HZ
    have HBk := hid hBk
    have HOw := hid hOw
    have HBr := hid hBe
    obtain ⟨vo, vc, rfl⟩ := hOw.shape
    have p0 : wr.cell? ⟨G, 0, none⟩ = some (.int .u32 r.lo) := hBk.cell rfl
    have p1 : wr.cell? ⟨G, 1, none⟩ = some (.int .u32 r.hi) := hBk.cell rfl
    have p2 : wr.cell? ⟨G, 2, none⟩ = some (.int .u32 r.co) := hBk.cell rfl
    have p3 : wr.cell? ⟨G, 3, none⟩ = some (.string s) := hBk.cell rfl
    have p4 : wr.cell? ⟨G, 4, none⟩ = some (.int .i64 r.at') := hBk.cell rfl
    have hol : o.length < 1000000000000 := by have := hrec.out.2.2; have := HN.out; omega
    clear hBk hOw hBe
    by_cases hlt : k < n
    · have hlt' : (k : Int) < (n : Int) := by omega
      obtain ⟨b', off', rfl, hc'⟩ := HU.out.2 k hlt
      have hcr' : wr.cell? ⟨b', off' + k, none⟩ = some (.int .i64 (ps.getD k 0)) := (HBr.out.cell (p := ⟨b', off' + k, none⟩) (World.block_lt_of_cell? w _ hc')).trans hc'
      have HGE := hid (impl_get r.lo r.hi r.co s r.at' (ps.getD k 0) wr hrec.out.2.1.1 hrec.out.2.1.2.1 hrec.out.2.1.2.2)
      clear hc'
      cases hg : okG r (ps.getD k 0) with
      | true =>
        rw [rRes_yes hg] at HGE
        have HNX := hid (hrec.out.next hg)
        have hbb : ¬ rBit r.lo r.hi r.co (ps.getD k 0) < 0 := by rcases rBit_in r.lo r.hi r.co (ps.getD k 0) with h | h <;> omega
        clear hg
        generalize rBit r.lo r.hi r.co (ps.getD k 0) = BB at *
        generalize rNext s r (ps.getD k 0) = rn at *
        generalize ps.getD k 0 = Y at *
        unfold rV at HGE
        go_wp2_with fail
        refine HGE.out.mono ?_
        rintro e w2 ⟨rfl, hb2⟩
        have HB2 := hid (HBr.out.trans (hb2.mono HBr.out.size))
        have HK2 := hid (HBk.out.below hb2 HBk.out.lt)
        have HO2 := hid (HOw.out.below hb2)
        have r0 := HK2.out.cell (i := 0) rfl
        have r1 := HK2.out.cell (i := 1) rfl
        have r2 := HK2.out.cell (i := 2) rfl
        have r3 := HK2.out.cell (i := 3) rfl
        have r4 := HK2.out.cell (i := 4) rfl
        have y0 := HK2.out.free 0
        have y1 := HK2.out.free 1
        have y2 := HK2.out.free 2
        have y3 := HK2.out.free 3
        have y4 := HK2.out.free 4
        have hlt2 : G < w2.heap.size := HK2.out.lt
        have hne2 : ¬ G = w2.heap.size := Nat.ne_of_lt HK2.out.lt
        have hne2' : ¬ w2.heap.size = G := fun e => hne2 e.symm
        clear hb2 p0 p1 p2 p3 p4
        go_wp2_with (at_builtin; refine wpList_pushg _ (w2.heap.size + 1) (by simp) rfl _ _ 24 rfl (G + 1) 3 .i64 0 8 Try.underlying24 Try.info3 _ o rfl (HO2.out.set5 (Nat.lt_succ_self G) _ _ _ _ _ _) BB rfl hol (by decide) ?_)
        intro v3 w3 hO3 hb3
        have HO3 := hid hO3
        have HK3 := hid (((HK2.out.set5 (a := .int .u32 rn.lo) (b := .int .u32 rn.hi) (c := .int .u32 rn.co) (d := .string s) (e := .int .i64 rn.at') _).below hb3 (Nat.lt_succ_self G)))
        have HB3 := hid ((below_set5 HB2.out hG.out HB2.out.size _ _ _ _ _ _).trans (hb3.mono (Nat.le_succ_of_le hG.out)))
        clear hO3 hb3
        go_wp2_with fail
        go_roundw
        case rel => exact ⟨k + 1, _, rn, by omega, by go_num, HNX.out, HK3.out, HO3.out, HB3.out⟩
        case measure => simp [intOf]; omega
      | false =>
        rw [rRes_no hg] at HGE
        have HE : Hid (RL = [] ∧ RB = false) := by
          have h1 := rAt_none (rAt_stop hrec.out.1 hg) (n - (k + 1))
          rw [show k + 1 + (n - (k + 1)) = n by omega] at h1
          have h2 := HR.out
          rw [h1] at h2
          cases h2
          exact ⟨rfl, rfl⟩
        obtain ⟨rfl, rfl⟩ := HE.out
        clear hg HE
        generalize ps.getD k 0 = Y at *
        unfold rV at HGE
        go_wp2_with fail
        refine HGE.out.mono ?_
        rintro e w2 ⟨rfl, hb2⟩
        have HB2 := hid (HBr.out.trans (hb2.mono HBr.out.size))
        clear hb2 p0 p1 p2 p3 p4
        go_wp2_with fail
        go_ret2
        refine ⟨_, rfl, ?_, ?_⟩
        · have hO := Own.empty (w2.alloc (.cells #[.int .u32 r.lo, .int .u32 r.hi, .int .u32 r.co, .string s, .int .i64 r.at'] 48)) 3 .i64 w.heap.size (Nat.le_trans HB2.out.size (by simp))
          rw [World.size_alloc] at hO
          exact hO
        · exact (HB2.out.alloc HB2.out.size _).alloc (Nat.le_trans HB2.out.size (by simp)) _
    · obtain rfl : k = n := by omega
      have HE : Hid (RL = o ∧ RB = true) := by
        have h2 := HR.out
        rw [hrec.out.1] at h2
        cases h2
        exact ⟨rfl, rfl⟩
      obtain ⟨rfl, rfl⟩ := HE.out
      clear HE hlt hk
      have HO9 : Hid (Own wr w.heap.size 3 .i64 (.slice vo RL.length vc) RL) := by
        have h := HOw.out
        refine ⟨HBr.out.size, h.2.1, ?_⟩
        rcases h.2.2 with h0 | ⟨g, cap, cur, hv, hg, r⟩
        · exact .inl h0
        · exact .inr ⟨g, cap, cur, hv, Nat.le_trans (Nat.le_succ_of_le hG.out) hg, r⟩
      go_wp2_with fail
      go_ret2
      exact ⟨_, rfl, HO9.out, HBr.out⟩

theorem impl_read (s : ByteArray) (bo : Option Addr) (cap : Nat) (ps : List Int) (w : World) (hs : s.size ≤ 1048576) (hu : View .i64 w bo ps.length ps) :
    Calls Try.prog 13 #[.string s, .slice bo ps.length cap] w fun e w' => ∃ v, e = .returned (.tuple #[v, .bool (readR s ps).2]) ∧ Own w' w.heap.size 3 .i64 v (readR s ps).1 ∧ Below w.heap.size w w' := by
  unfold readR
  by_cases h : 480000 < ps.length
  · rw [if_pos h]
    have h1 : (480000 : Int) < (ps.length : Int) := by omega
    clear h hu hs
    generalize ps.length = n at *
    go_enter Try.func13, Try.ntmps13
    go_wp2_with fail
    go_ret2
    exact ⟨_, rfl, Own.empty w 3 .i64 w.heap.size (Nat.le_refl _), (Below.refl _ _).alloc (Nat.le_refl _) _⟩
  · rw [if_neg h]
    exact impl_read_yes s bo cap ps.length ps w hs (by omega) hu
end Go.Proofs.Ytahknoeloclofaa
