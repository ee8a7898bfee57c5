/- The law of ModelGet. -/
import Derived.Test.YtimafabbepgifaaSh
import Derived.Test.YtimafabbepgifaaRk
import Derived.Test.YtimafabbepgifaaRl
import Derived.Test.YtimafabbepgifaaMs
namespace Go.Proofs.Ytimafabbepgifaa
open Go.RowKit
set_option linter.unusedVariables false

theorem getF_len {B : Nat} {t : ByteArray} : ∀ f {st st' : GS} {s s' : Wk}, getF B t f st s = some (st', s') → st'.ch.length = st.ch.length
  | 0, st, st', s, s', h => by
    rw [getF] at h
    cases h
    rfl
  | f + 1, st, st', s, s', h => by
    rw [getF] at h
    split at h
    · cases h
      rfl
    · split at h
      · cases h
      · have := getF_len f h
        rw [this]
        simp [gN]
theorem mgS_len (lo hi co i : Int) (t : ByteArray) (ch : List Int) (B : Int) (hc : ch.length ≤ 1048576) : (mgS lo hi co i ch (mgR lo hi co t i ch B)).ch.length ≤ 1048576 := by
  unfold mgR
  split
  · cases h : getF B.toNat t 31 ⟨lo, hi, co, i, ch⟩ wk0 with
    | none => exact hc
    | some x =>
      obtain ⟨st, s⟩ := x
      have := getF_len 31 h
      show st.ch.length ≤ 1048576
      rw [this]
      exact hc
  · exact hc
theorem Own.kept {w w' : World} {base : Nat} {v u : Value} {xs : List Int} (ho : Own w base 3 .i64 u xs) (hk : ∀ b l t, Blk w b l t → (∀ (a : Addr) n c, v = .slice (some a) n c → a.block ≠ b) → Blk w' b l t) (hs : w.heap.size ≤ w'.heap.size) (hne : ∀ (a b : Addr) n c m d, v = .slice (some a) n c → u = .slice (some b) m d → a.block ≠ b.block) : Own w' base 3 .i64 u xs := by
  refine ⟨Nat.le_trans ho.1 hs, ho.2.1, ?_⟩
  rcases ho.2.2 with h0 | ⟨g, cap, cur, rfl, hg, hh, r⟩
  · exact .inl h0
  · refine .inr ⟨g, cap, cur, rfl, hg, ?_, r⟩
    have hB : Blk w g cur.toList 3 := by unfold Blk; simpa using hh
    have := hk g cur.toList 3 hB (fun a n c e => hne a ⟨g, 0, none⟩ n c _ _ e rfl)
    unfold Blk at this
    simpa using this
theorem Bs.marked {w w' : World} {base : Nat} {v : Value} {xs : List Int} {L : List (Nat × List Value × TypeId)} (h : Bs w L) (ho : Own w base 3 .i64 v xs) (hk : ∀ b l t, Blk w b l t → (∀ (a : Addr) n c, v = .slice (some a) n c → a.block ≠ b) → Blk w' b l t) (hL : ∀ x ∈ L, x.2.2 ≠ 3) : Bs w' L := by
  intro x hx
  refine hk _ _ _ (h x hx) (fun a n c e => ?_)
  rcases ho.2.2 with ⟨e2, _⟩ | ⟨g, cap, cur, e2, hg, hh, r⟩
  · rw [e] at e2; cases e2
  · rw [e] at e2
    simp only [Value.slice.injEq, Option.some.injEq] at e2
    obtain ⟨rfl, _, _⟩ := e2
    have hB : Blk w g cur.toList 3 := by unfold Blk; simpa using hh
    exact hB.apart (h x hx) (fun e => hL x hx e.symm)
theorem hid_shape {w : World} {base : Nat} {e : TypeId} {k : IntKind} {v : Value} {xs : List Int} (h : Hid (Own w base e k v xs)) : ∃ ao cap, v = .slice ao xs.length cap := h.out.shape

def Ke : Nat → Nat := fun j => #[0, 1, 16, 4, 6, 7, 8, 9, 5, 10, 11, 12, 13, 14, 17, 15].getD j 99
def De : Nat → Nat := fun j => #[48, 49, 50, 51, 52, 47, 53, 54, 55, 56, 13, 14, 13, 14, 15, 16].getD j 999
theorem De_ne : ∀ i j : Fin 16, j ≠ i → i.val ≠ 10 → i.val ≠ 11 → i.val ≠ 12 → i.val ≠ 13 → De j ≠ De i := by decide
theorem De_ne11 : ∀ j : Fin 16, j.val ≠ 10 → j.val ≠ 12 → De j ≠ De 10 := by decide
theorem De_ne12 : ∀ j : Fin 16, j.val ≠ 11 → j.val ≠ 13 → De j ≠ De 11 := by decide
def Kf : Nat → Nat := fun j => #[0, 1, 2, 3, 4, 6, 7, 8, 9, 5, 10, 11, 12, 13, 14, 17, 15].getD j 99
def Df : Nat → Nat := fun j => #[121, 122, 123, 124, 125, 126, 120, 127, 128, 129, 130, 20, 21, 20, 21, 22, 23].getD j 999
theorem Df_ne : ∀ i j : Fin 17, j ≠ i → i.val ≠ 11 → i.val ≠ 12 → i.val ≠ 13 → i.val ≠ 14 → Df j ≠ Df i := by decide
theorem Df_ne11 : ∀ j : Fin 17, j.val ≠ 11 → j.val ≠ 13 → Df j ≠ Df 11 := by decide
theorem Df_ne12 : ∀ j : Fin 17, j.val ≠ 12 → j.val ≠ 14 → Df j ≠ Df 12 := by decide
def Kd : Nat → Nat := fun j => #[0, 1, 2, 3, 4, 6, 7, 8, 9, 5, 10, 11, 12, 13, 14, 17, 15].getD j 99
def Dd : Nat → Nat := fun j => #[35, 36, 37, 38, 39, 40, 34, 41, 42, 43, 44, 8, 9, 8, 9, 10, 11].getD j 999
theorem Dd_ne : ∀ i j : Fin 17, j ≠ i → i.val ≠ 11 → i.val ≠ 12 → i.val ≠ 13 → i.val ≠ 14 → Dd j ≠ Dd i := by decide
theorem Dd_ne11 : ∀ j : Fin 17, j.val ≠ 11 → j.val ≠ 13 → Dd j ≠ Dd 11 := by decide
theorem Dd_ne12 : ∀ j : Fin 17, j.val ≠ 12 → j.val ≠ 14 → Dd j ≠ Dd 12 := by decide

set_option maxRecDepth 100000 in
set_option maxHeartbeats 3200000 in
theorem law_mget (lo hi co : Int) (t : ByteArray) (i : Int) (ao : Option Addr) (n cap : Nat) (z0 : List Int) (B : Int) (w : World) (hl : W32 lo) (hh : W32 hi) (hc : W32 co) (hm : t.size ≤ 9223372036854775807) (hr0 : IsRow .i64 w ao n cap z0) :
    Calls Try.prog 5 #[rV lo hi co t i, .agg #[.slice ao n cap], .int .i64 B] w fun e w' => e = .returned (.bool true) ∧ Below w.heap.size w w' := by
  have hv := hr0.view
  have hlen := hr0.len.1
  have hcap : n ≤ cap := by
    rcases hr0 with ⟨_, rfl, rfl, _⟩ | ⟨x, _, h, _⟩
    · exact Nat.le_refl _
    · exact h
  have e0 := hv.1
  generalize z0.take n = ch at *
  clear hr0
  subst e0
  have HV := hid (show Vw w (.slice ao ch.length cap) ch from ⟨ao, cap, rfl, hv, hcap⟩)
  clear hv hcap
  obtain ⟨n1, n2, n3⟩ := new_two w [.int .u32 lo, .int .u32 hi, .int .u32 co, .string t, .int .i64 i] [.slice ao ch.length cap] 54 45
  have N3 := hid n3
  have BS0 : Hid (Bs ((w.alloc (.cells #[.int .u32 lo, .int .u32 hi, .int .u32 co, .string t, .int .i64 i] 54)).alloc (.cells #[.slice ao ch.length cap] 45)) [(w.heap.size, [.int .u32 lo, .int .u32 hi, .int .u32 co, .string t, .int .i64 i], 54), (w.heap.size + 1, [.slice ao ch.length cap], 45)]) := by
    intro y hy
    simp only [List.mem_cons, List.not_mem_nil, or_false] at hy
    rcases hy with rfl | rfl
    · exact n1
    · exact n2
  clear n1 n2 n3
  by_cases hb0 : t.size ≤ 1048576
  · have HSC := hid (fun q => sz_reader lo hi co t i q hb0)
    by_cases hb1 : (ch.length : Int) ≤ 1048576 - t.size
    · have hc20 : ch.length ≤ 1048576 := by omega
      have HSM : Hid (∀ q, Calls Try.prog 17 #[.agg #[.slice ao ch.length cap], .int .i64 (1048576 - t.size)] q fun e w' => e = .returned (.int .i64 (1048576 - t.size - ch.length)) ∧ Below q.heap.size q w') := fun q => by
        have := sz_model ao ch.length cap (1048576 - t.size) q (by omega) (by omega) hlen
        rw [show lft (1048576 - t.size) ch.length = 1048576 - t.size - ch.length by unfold lft; rw [if_neg (by omega)]] at this
        exact this
      have HTC := hid (fun q => to_reader lo hi co t i q)
      have HTM := hid (fun q (hq : Below w.heap.size w q) => to_model (.slice ao ch.length cap) ch q hc20 (HV.out.below (Nat.le_refl _) hq))
      have HSP := hid (fun v q hv => spec_mget lo hi co t i v ch B q hl hh hc hc20 hb0 hv)
      have HIP := hid (fun v q hv => impl_mget lo hi co t i v ch B q hl hh hc hc20 hv)
      have hRL := mgS_len lo hi co i t ch B hc20
      unfold MgP at HSP HIP
      generalize mgR lo hi co t i ch B = R at *
      generalize mgN R = NN at *
      generalize R.isSome = RB at *
      generalize mgS lo hi co i ch R = RS at *
      have HEC := hid (fun q => eq_reader RS.lo RS.hi RS.co t RS.i q)
      have HEM := hid (fun v u q h1 h2 => eq_model v u RS.ch q hRL h1 h2)
      have HEX := hid (fun v u q h1 h2 => eq_model v u ch q hc20 h1 h2)
      have HMX := hid (fun B v q h0 ho => mark_model B v ch q (by omega) h0 ho)
      have HMR := hid (fun D v q h0 ho => mark_model D v RS.ch q (by omega) h0 ho)
      have HHR := hid (fun v q h => held_model v RS.ch.length q (by omega) h)
      generalize RS.lo = RL at *
      generalize RS.hi = RH at *
      generalize RS.co = RO at *
      generalize RS.i = RI at *
      generalize RS.ch = RC at *
      have t1 : ¬ (1048576 : Int) - t.size < 0 := by omega
      have t2 : ¬ (1048576 : Int) - t.size - ch.length < 0 := by omega
      unfold rV at *
      go_enter Try.func5, Try.ntmps5
      go_wp2_with fail
      refine (HSC.out _).mono ?_
      generalize (w.alloc (.cells #[.int .u32 lo, .int .u32 hi, .int .u32 co, .string t, .int .i64 i] 54)).alloc (.cells #[.slice ao ch.length cap] 45) = w0 at *
      rintro e w1 ⟨rfl, hb1⟩
      have BS1 := hid (BS0.out.below hb1)
      have A1 := hid (N3.out.trans (hb1.mono N3.out.size))
      have m1 := (BS1.out.get (b := w.heap.size + 1) (l := [.slice ao ch.length cap]) (t := 45) (by simp)).cell (i := 0) rfl
      clear hb1 BS0 N3
      go_wp2_with fail
      refine (HSM.out _).mono ?_
      rintro e w2 ⟨rfl, hb2⟩
      have BS2 := hid (BS1.out.below hb2)
      have A2 := hid (A1.out.trans (hb2.mono A1.out.size))
      clear hb2 BS1 A1 m1
      go_wp2_with fail
      go_cut [8, 9, 10, 11] from 34 to 44 (fun p q r o wx => ∃ A1 A2 y, p = .pointer (some ⟨A1, 0, none⟩) ∧ q = .pointer (some ⟨A2, 0, none⟩) ∧ r = .int .i64 NN ∧ o = .bool RB ∧ w2.heap.size ≤ A1 ∧ w2.heap.size ≤ A2 ∧ Blk wx A1 [.int .u32 RL, .int .u32 RH, .int .u32 RO, .string t, .int .i64 RI] 38 ∧ Blk wx A2 [y] 27 ∧ Own wx w2.heap.size 3 .i64 y RC ∧ Below w2.heap.size w2 wx)
      case first =>
        refine wp_region_any (by kernel_rfl) ?_
        refine wpAny_inv (fun listed a wq => ∃ u : Nat → Value, a = { tmps := #[Value.agg #[Value.int IntKind.u32 lo, Value.int IntKind.u32 hi, Value.int IntKind.u32 co, Value.string t, Value.int IntKind.i64 i], Value.agg #[Value.slice ao ch.length cap], Value.int IntKind.i64 B, Value.pointer (some ⟨w.heap.size, 0, none⟩), Value.pointer (some ⟨w.heap.size + 1, 0, none⟩), undef, Value.bool false, Value.int IntKind.i64 (1048576 - (t.size : Int) - (ch.length : Int)), u 8, u 9, u 10, u 11, undef, undef, undef, undef, undef, undef, undef, undef, undef, undef, undef, undef, Value.agg #[Value.int IntKind.u32 lo, Value.int IntKind.u32 hi, Value.int IntKind.u32 co, Value.string t, Value.int IntKind.i64 i], Value.int IntKind.i64 1048576, Value.int IntKind.i64 (1048576 - (t.size : Int)), Value.int IntKind.i64 (1048576 - (t.size : Int)), Value.bool (decide ((1048576 : Int) - t.size < 0)), Value.agg #[Value.slice ao ch.length cap], Value.int IntKind.i64 (1048576 - (t.size : Int)), Value.int IntKind.i64 (1048576 - (t.size : Int) - (ch.length : Int)), Value.int IntKind.i64 (1048576 - (t.size : Int) - (ch.length : Int)), Value.bool (decide ((1048576 : Int) - t.size - (ch.length : Int) < 0)), u 34, u 35, u 36, u 37, u 38, u 39, u 40, u 41, u 42, u 43, u 44, undef, undef, undef, undef, undef, undef, undef, undef, undef, undef, undef, undef, undef, undef, undef, undef, undef, undef, undef, undef, undef, undef, undef, undef, undef, undef, undef, undef, undef, undef, undef, undef, undef, undef, undef, undef, undef, undef, undef, undef, undef, undef, undef, undef, undef, undef, undef, undef, undef, undef, undef, undef, undef, undef, undef, undef, undef, undef, undef, undef, undef, undef, undef, undef, undef, undef, undef, undef, undef, undef, undef, undef, undef, undef, undef, undef, undef, undef, undef, undef, undef, undef, undef, undef, undef, undef, undef, undef, undef, undef, undef, undef, undef, undef, undef, undef, undef, undef, undef, undef, undef, undef, undef, undef, undef, undef, undef, undef, undef, undef, undef, undef, undef, undef], defers := [] } ∧ Below w2.heap.size w2 wq ∧ Facts 17 (fun j => VG lo hi co i t (.agg #[.slice ao ch.length cap]) (.bool false) B RL RH RO RI NN RB ch RC w2.heap.size (Kd j)) Dd listed u wq) ?hpre ?hstep ?hend _ _ _ _ rfl (by decide) (fun j oj _ hl => absurd hl (by simp [Array.getD])) ⟨fun k => undef, rfl, (Below.refl _ _).drew, fun j hj hl => absurd hl (by simp [Array.getD])⟩
        case hpre => exact pre_of (by kernel_rfl)
        case hend =>
          rintro listed a wq hall ⟨u, rfl, hb, hF⟩
          obtain ⟨A1, e1, m1, b1⟩ : ∃ A1, u 8 = .pointer (some ⟨A1, 0, none⟩) ∧ w2.heap.size ≤ A1 ∧ Blk wq A1 [.int .u32 RL, .int .u32 RH, .int .u32 RO, .string t, .int .i64 RI] 38 := hF 13 (by decide) (hall 13 (by decide))
          obtain ⟨A2, y, e2, m2, b2, o2⟩ : ∃ A2 y, u 9 = .pointer (some ⟨A2, 0, none⟩) ∧ w2.heap.size ≤ A2 ∧ Blk wq A2 [y] 27 ∧ Own wq w2.heap.size 3 .i64 y RC := hF 14 (by decide) (hall 14 (by decide))
          have e3 : u 10 = .int .i64 NN := hF 15 (by decide) (hall 15 (by decide))
          have e4 : u 11 = .bool RB := hF 16 (by decide) (hall 16 (by decide))
          go_wp2_with fail
          go_meet
          exact ⟨A1, A2, y, e1, e2, e3, e4, m1, m2, b1, b2, o2, hb⟩
        case hstep =>
          rintro listed a wq jx o hsz ⟨u, rfl, hb, hF⟩ ho hall hun hcl
          have hin : jx < 17 := (Array.getElem?_eq_some_iff.1 ho).1
          have BQ := BS2.out.below hb
          have c20 := (BQ.get (b := w.heap.size) (l := [.int .u32 lo, .int .u32 hi, .int .u32 co, .string t, .int .i64 i]) (t := 54) (by simp)).cell (i := 0) rfl
          have c21 := (BQ.get (b := w.heap.size) (l := [.int .u32 lo, .int .u32 hi, .int .u32 co, .string t, .int .i64 i]) (t := 54) (by simp)).cell (i := 1) rfl
          have c22 := (BQ.get (b := w.heap.size) (l := [.int .u32 lo, .int .u32 hi, .int .u32 co, .string t, .int .i64 i]) (t := 54) (by simp)).cell (i := 2) rfl
          have c23 := (BQ.get (b := w.heap.size) (l := [.int .u32 lo, .int .u32 hi, .int .u32 co, .string t, .int .i64 i]) (t := 54) (by simp)).cell (i := 3) rfl
          have c24 := (BQ.get (b := w.heap.size) (l := [.int .u32 lo, .int .u32 hi, .int .u32 co, .string t, .int .i64 i]) (t := 54) (by simp)).cell (i := 4) rfl
          have m2 := (BQ.get (b := w.heap.size + 1) (l := [.slice ao ch.length cap]) (t := 45) (by simp)).cell (i := 0) rfl
          have BE : Hid (∀ (wz : World), Below wq.heap.size wq wz → ∀ j (z : Value), j < 17 → (fun j => VG lo hi co i t (.agg #[.slice ao ch.length cap]) (.bool false) B RL RH RO RI NN RB ch RC w2.heap.size (Kd j)) j z wq → (fun j => VG lo hi co i t (.agg #[.slice ao ch.length cap]) (.bool false) B RL RH RO RI NN RB ch RC w2.heap.size (Kd j)) j z wz) := fun wz hbz j z _ h => VG.below hbz _ _ h
          have BZ : Hid (∀ (wz : World), Below wq.heap.size wq wz → Below w2.heap.size w2 wz) := fun wz hbz => hb.trans (hbz.mono hb.size)
          have ST : Hid (jx ≠ 11 → jx ≠ 12 → jx ≠ 13 → jx ≠ 14 → ∀ (wz : World) (v : Value), Below wq.heap.size wq wz → (fun j => VG lo hi co i t (.agg #[.slice ao ch.length cap]) (.bool false) B RL RH RO RI NN RB ch RC w2.heap.size (Kd j)) jx v wz → Below w2.heap.size w2 wz ∧ Facts 17 (fun j => VG lo hi co i t (.agg #[.slice ao ch.length cap]) (.bool false) B RL RH RO RI NN RB ch RC w2.heap.size (Kd j)) Dd (listed.setIfInBounds jx true) (upd u (Dd jx) v) wz) := fun h1 h2 h3 h4 wz v hbz hv => ⟨BZ.out wz hbz, hF.step jx v (fun j hj hne _ => Dd_ne ⟨jx, hin⟩ ⟨j, hj⟩ (fun e => hne (congrArg Fin.val e)) h1 h2 h3 h4) (BE.out wz hbz) hv⟩
          obtain rfl | rfl | rfl | rfl | rfl | rfl | rfl | rfl | rfl | rfl | rfl | rfl | rfl | rfl | rfl | rfl | rfl : jx = 0 ∨ jx = 1 ∨ jx = 2 ∨ jx = 3 ∨ jx = 4 ∨ jx = 5 ∨ jx = 6 ∨ jx = 7 ∨ jx = 8 ∨ jx = 9 ∨ jx = 10 ∨ jx = 11 ∨ jx = 12 ∨ jx = 13 ∨ jx = 14 ∨ jx = 15 ∨ jx = 16 := by omega
          · cases ho
            refine wpOp_step rfl (fun K hK => ?_)
            go_simp
            refine hK _ _ ⟨upd u 35 (.agg #[.int .u32 lo, .int .u32 hi, .int .u32 co, .string t, .int .i64 i]), ?_, ST.out (by decide) (by decide) (by decide) (by decide) _ _ (Below.refl _ _) (rfl)⟩
            simp [upd]
          · cases ho
            have f0 : u 35 = .agg #[.int .u32 lo, .int .u32 hi, .int .u32 co, .string t, .int .i64 i] := hF 0 (by decide) (hall ⟨0, .data⟩ (by simp) rfl)
            refine wpOp_step rfl (fun K hK => ?_)
            simp only [f0]
            go_simp
            go_wp2_with (go_at_call 27; refine (HTC.out wq).mono ?_; rintro e wz ⟨rfl, hbz⟩)
            first | refine hK _ _ ⟨upd u 36 (.agg #[.int .u32 lo, .int .u32 hi, .int .u32 co, .string t, .int .i64 i]), ?_, ST.out (by decide) (by decide) (by decide) (by decide) _ _ hbz rfl⟩ | refine ⟨upd u 36 (.agg #[.int .u32 lo, .int .u32 hi, .int .u32 co, .string t, .int .i64 i]), ?_, ST.out (by decide) (by decide) (by decide) (by decide) _ _ hbz rfl⟩
            simp [upd, f0]
          · cases ho
            refine wpOp_step rfl (fun K hK => ?_)
            go_simp
            refine hK _ _ ⟨upd u 37 (.agg #[.slice ao ch.length cap]), ?_, ST.out (by decide) (by decide) (by decide) (by decide) _ _ (Below.refl _ _) (rfl)⟩
            simp [upd]
          · cases ho
            have f2 : u 37 = .agg #[.slice ao ch.length cap] := hF 2 (by decide) (hall ⟨2, .data⟩ (by simp) rfl)
            refine wpOp_step rfl (fun K hK => ?_)
            simp only [f2]
            go_simp
            go_wp2_with (go_at_call 20; refine (HTM.out wq (A2.out.trans (hb.mono A2.out.size))).mono ?_; rintro e wz ⟨y, rfl, oy, hbz⟩)
            first | refine hK _ _ ⟨upd u 38 (.agg #[y]), ?_, ST.out (by decide) (by decide) (by decide) (by decide) _ _ hbz ⟨y, rfl, oy.lower hb.size⟩⟩ | refine ⟨upd u 38 (.agg #[y]), ?_, ST.out (by decide) (by decide) (by decide) (by decide) _ _ hbz ⟨y, rfl, oy.lower hb.size⟩⟩
            simp [upd, f2]
          · cases ho
            refine wpOp_step rfl (fun K hK => ?_)
            go_simp
            refine hK _ _ ⟨upd u 39 (.int .i64 B), ?_, ST.out (by decide) (by decide) (by decide) (by decide) _ _ (Below.refl _ _) (rfl)⟩
            simp [upd]
          · cases ho
            have f1 : u 36 = .agg #[.int .u32 lo, .int .u32 hi, .int .u32 co, .string t, .int .i64 i] := hF 1 (by decide) (hall ⟨1, .data⟩ (by simp) rfl)
            obtain ⟨y3, f3, o3⟩ : ∃ y, u 38 = .agg #[y] ∧ Own wq w2.heap.size 3 .i64 y ch := hF 3 (by decide) (hall ⟨3, .data⟩ (by simp) rfl)
            have f4 : u 39 = .int .i64 B := hF 4 (by decide) (hall ⟨4, .data⟩ (by simp) rfl)
            refine wpOp_step rfl (fun K hK => ?_)
            simp only [f1, f3, f4]
            go_simp
            go_wp2_with (go_at_call 26; refine (HSP.out y3 wq o3.vp).mono ?_; rintro e wz ⟨y, rfl, oy, hbz⟩)
            first | refine hK _ _ ⟨upd u 40 (.tuple #[.agg #[.int .u32 RL, .int .u32 RH, .int .u32 RO, .string t, .int .i64 RI], .agg #[y], .int .i64 NN, .bool RB]), ?_, ST.out (by decide) (by decide) (by decide) (by decide) _ _ hbz ⟨y, rfl, oy.lower hb.size⟩⟩ | refine ⟨upd u 40 (.tuple #[.agg #[.int .u32 RL, .int .u32 RH, .int .u32 RO, .string t, .int .i64 RI], .agg #[y], .int .i64 NN, .bool RB]), ?_, ST.out (by decide) (by decide) (by decide) (by decide) _ _ hbz ⟨y, rfl, oy.lower hb.size⟩⟩
            simp [upd, f1, f3, f4]
          · cases ho
            obtain ⟨y5, f5, o5⟩ : ∃ y, u 40 = .tuple #[.agg #[.int .u32 RL, .int .u32 RH, .int .u32 RO, .string t, .int .i64 RI], .agg #[y], .int .i64 NN, .bool RB] ∧ Own wq w2.heap.size 3 .i64 y RC := hF 5 (by decide) (hall ⟨5, .data⟩ (by simp) rfl)
            refine wpOp_step rfl (fun K hK => ?_)
            simp only [f5]
            go_simp
            refine hK _ _ ⟨upd u 34 (.tuple #[.agg #[.int .u32 RL, .int .u32 RH, .int .u32 RO, .string t, .int .i64 RI], .agg #[y5], .int .i64 NN, .bool RB]), ?_, ST.out (by decide) (by decide) (by decide) (by decide) _ _ (Below.refl _ _) ⟨y5, rfl, o5⟩⟩
            simp [upd, f5]
          · cases ho
            obtain ⟨y6, f6, o6⟩ : ∃ y, u 34 = .tuple #[.agg #[.int .u32 RL, .int .u32 RH, .int .u32 RO, .string t, .int .i64 RI], .agg #[y], .int .i64 NN, .bool RB] ∧ Own wq w2.heap.size 3 .i64 y RC := hF 6 (by decide) (hall ⟨6, .data⟩ (by simp) rfl)
            refine wpOp_step rfl (fun K hK => ?_)
            simp only [f6]
            go_simp
            refine hK _ _ ⟨upd u 41 (.agg #[.int .u32 RL, .int .u32 RH, .int .u32 RO, .string t, .int .i64 RI]), ?_, ST.out (by decide) (by decide) (by decide) (by decide) _ _ (Below.refl _ _) (rfl)⟩
            simp [upd, f6]
          · cases ho
            obtain ⟨y6, f6, o6⟩ : ∃ y, u 34 = .tuple #[.agg #[.int .u32 RL, .int .u32 RH, .int .u32 RO, .string t, .int .i64 RI], .agg #[y], .int .i64 NN, .bool RB] ∧ Own wq w2.heap.size 3 .i64 y RC := hF 6 (by decide) (hall ⟨6, .data⟩ (by simp) rfl)
            refine wpOp_step rfl (fun K hK => ?_)
            simp only [f6]
            go_simp
            refine hK _ _ ⟨upd u 42 (.agg #[y6]), ?_, ST.out (by decide) (by decide) (by decide) (by decide) _ _ (Below.refl _ _) ⟨y6, rfl, o6⟩⟩
            simp [upd, f6]
          · cases ho
            obtain ⟨y6, f6, o6⟩ : ∃ y, u 34 = .tuple #[.agg #[.int .u32 RL, .int .u32 RH, .int .u32 RO, .string t, .int .i64 RI], .agg #[y], .int .i64 NN, .bool RB] ∧ Own wq w2.heap.size 3 .i64 y RC := hF 6 (by decide) (hall ⟨6, .data⟩ (by simp) rfl)
            refine wpOp_step rfl (fun K hK => ?_)
            simp only [f6]
            go_simp
            refine hK _ _ ⟨upd u 43 (.int .i64 NN), ?_, ST.out (by decide) (by decide) (by decide) (by decide) _ _ (Below.refl _ _) (rfl)⟩
            simp [upd, f6]
          · cases ho
            obtain ⟨y6, f6, o6⟩ : ∃ y, u 34 = .tuple #[.agg #[.int .u32 RL, .int .u32 RH, .int .u32 RO, .string t, .int .i64 RI], .agg #[y], .int .i64 NN, .bool RB] ∧ Own wq w2.heap.size 3 .i64 y RC := hF 6 (by decide) (hall ⟨6, .data⟩ (by simp) rfl)
            refine wpOp_step rfl (fun K hK => ?_)
            simp only [f6]
            go_simp
            refine hK _ _ ⟨upd u 44 (.bool RB), ?_, ST.out (by decide) (by decide) (by decide) (by decide) _ _ (Below.refl _ _) (rfl)⟩
            simp [upd, f6]
          · cases ho
            refine wpOp_step rfl (fun K hK => ?_)
            go_simp
            have hno : ∀ j, j < 17 → j ≠ 11 → listed.getD j false = true → Dd j ≠ Dd 11 := fun j hj hne hl => by
              refine Dd_ne11 ⟨j, hj⟩ hne ?_
              intro e
              have e : j = 13 := e
              subst e
              have := hcl 13 _ rfl hl ⟨11, .data⟩ (by simp) rfl
              rw [Array.getD] at this hun
              split at this
              · rename_i h; rw [dif_pos h] at hun; rw [this] at hun; cases hun
              · cases this
            have hbz : Below wq.heap.size wq (wq.alloc (.cells #[.int .u32 0, .int .u32 0, .int .u32 0, .string ⟨#[]⟩, .int .i64 0] 38)) := (Below.refl _ _).alloc (Nat.le_refl _) _
            refine hK _ _ ⟨upd u 8 (.pointer (some ⟨wq.heap.size, 0, none⟩)), ?_, BZ.out _ hbz, hF.step 11 _ hno (BE.out _ hbz) ⟨_, _, _, _, _, _, rfl, hb.size, Blk.new wq [.int .u32 0, .int .u32 0, .int .u32 0, .string ⟨#[]⟩, .int .i64 0] 38⟩⟩
            simp [upd]
          · cases ho
            refine wpOp_step rfl (fun K hK => ?_)
            go_simp
            have hno : ∀ j, j < 17 → j ≠ 12 → listed.getD j false = true → Dd j ≠ Dd 12 := fun j hj hne hl => by
              refine Dd_ne12 ⟨j, hj⟩ hne ?_
              intro e
              have e : j = 14 := e
              subst e
              have := hcl 14 _ rfl hl ⟨12, .data⟩ (by simp) rfl
              rw [Array.getD] at this hun
              split at this
              · rename_i h; rw [dif_pos h] at hun; rw [this] at hun; cases hun
              · cases this
            have hbz : Below wq.heap.size wq (wq.alloc (.cells #[.slice none 0 0] 27)) := (Below.refl _ _).alloc (Nat.le_refl _) _
            refine hK _ _ ⟨upd u 9 (.pointer (some ⟨wq.heap.size, 0, none⟩)), ?_, BZ.out _ hbz, hF.step 12 _ hno (BE.out _ hbz) ⟨_, _, rfl, hb.size, Blk.new wq [.slice none 0 0] 27⟩⟩
            simp [upd]
          · cases ho
            obtain ⟨A11, p11, q11, r11, v11, z11, f11, m11, b11⟩ : ∃ A a b c d e, u 8 = .pointer (some ⟨A, 0, none⟩) ∧ w2.heap.size ≤ A ∧ Blk wq A [a, b, c, d, e] 38 := hF 11 (by decide) (hall ⟨11, .data⟩ (by simp) rfl)
            have f7 : u 41 = .agg #[.int .u32 RL, .int .u32 RH, .int .u32 RO, .string t, .int .i64 RI] := hF 7 (by decide) (hall ⟨7, .data⟩ (by simp) rfl)
            have c0 := b11.cell (i := 0) rfl
            have g0 := b11.free 0
            have c1 := b11.cell (i := 1) rfl
            have g1 := b11.free 1
            have c2 := b11.cell (i := 2) rfl
            have g2 := b11.free 2
            have c3 := b11.cell (i := 3) rfl
            have g3 := b11.free 3
            have c4 := b11.cell (i := 4) rfl
            have g4 := b11.free 4
            refine wpOp_step rfl (fun K hK => ?_)
            simp only [f11, f7]
            go_simp
            refine hK _ _ ⟨u, ?_, ?_, hF.keep 13 (fun j x _ h => VG.st38 b11 _ _ h) ?_⟩
            · simp [f11, f7]
            · exact ((((hb.setCell (p := ⟨A11, 0, none⟩) m11 _).setCell (p := ⟨A11, 1, none⟩) m11 _).setCell (p := ⟨A11, 2, none⟩) m11 _).setCell (p := ⟨A11, 3, none⟩) m11 _).setCell (p := ⟨A11, 4, none⟩) m11 _
            · exact ⟨A11, f11, m11, ((((b11.set 0 _).set 1 _).set 2 _).set 3 _).set 4 _⟩
          · cases ho
            obtain ⟨A12, p12, f12, m12, b12⟩ : ∃ A a, u 9 = .pointer (some ⟨A, 0, none⟩) ∧ w2.heap.size ≤ A ∧ Blk wq A [a] 27 := hF 12 (by decide) (hall ⟨12, .data⟩ (by simp) rfl)
            obtain ⟨y8, f8, o8⟩ : ∃ y, u 42 = .agg #[y] ∧ Own wq w2.heap.size 3 .i64 y RC := hF 8 (by decide) (hall ⟨8, .data⟩ (by simp) rfl)
            obtain ⟨ya, yc, hy⟩ := o8.shape
            subst hy
            have c0 := b12.cell (i := 0) rfl
            have g0 := b12.free 0
            refine wpOp_step rfl (fun K hK => ?_)
            simp only [f12, f8]
            go_simp
            refine hK _ _ ⟨u, ?_, ?_, hF.keep 14 (fun j x _ h => VG.st27 b12 o8 _ _ h) ?_⟩
            · simp [f12, f8]
            · exact hb.setCell (p := ⟨A12, 0, none⟩) m12 _
            · exact ⟨A12, _, f12, m12, b12.set 0 _, o8.typed b12 (by decide) _⟩
          · cases ho
            have f9 : u 43 = .int .i64 NN := hF 9 (by decide) (hall ⟨9, .data⟩ (by simp) rfl)
            refine wpOp_step rfl (fun K hK => ?_)
            simp only [f9]
            go_simp
            refine hK _ _ ⟨upd u 10 (.int .i64 NN), ?_, ST.out (by decide) (by decide) (by decide) (by decide) _ _ (Below.refl _ _) (rfl)⟩
            simp [upd, f9]
          · cases ho
            have f10 : u 44 = .bool RB := hF 10 (by decide) (hall ⟨10, .data⟩ (by simp) rfl)
            refine wpOp_step rfl (fun K hK => ?_)
            simp only [f10]
            go_simp
            refine hK _ _ ⟨upd u 11 (.bool RB), ?_, ST.out (by decide) (by decide) (by decide) (by decide) _ _ (Below.refl _ _) (rfl)⟩
            simp [upd, f10]
      case rest =>
        obtain ⟨PA, PB, yw, rfl, rfl, rfl, rfl, hPA, hPB, hB1, hB2, hO, hbx⟩ := hcut
        generalize hwc : wc = w3 at *
        clear hwc
        have BS3 : Hid (Bs w3 [(w.heap.size, [.int .u32 lo, .int .u32 hi, .int .u32 co, .string t, .int .i64 i], 54), (w.heap.size + 1, [.slice ao ch.length cap], 45), (PA, [.int .u32 RL, .int .u32 RH, .int .u32 RO, .string t, .int .i64 RI], 38), (PB, [yw], 27)]) := by
          intro y hy
          simp only [List.mem_cons, List.not_mem_nil, or_false] at hy
          rcases hy with rfl | rfl | rfl | rfl
          · exact (BS2.out.below hbx).get (by simp)
          · exact (BS2.out.below hbx).get (by simp)
          · exact hB1
          · exact hB2
        have A3 := hid (A2.out.trans (hbx.mono A2.out.size))
        have HW3 := hid A3.out.size
        have W3 := hid hO
        have hgW : Hid (∀ (a : Addr) n c, yw = .slice (some a) n c → a.block < w3.heap.size) := fun a n c h => by
          have h5 := hO
          rw [h] at h5
          exact h5.ge.2
        have HPA := hid hPA
        have HPB := hid hPB
        have m3 := (BS3.out.get (b := w.heap.size + 1) (l := [.slice ao ch.length cap]) (t := 45) (by simp)).cell (i := 0) rfl
        clear hbx hB1 hB2 hO hPA hPB BS2
        go_wp2_with fail
        refine (HTM.out w3 A3.out).mono ?_
        rintro e w4 ⟨vx, rfl, hx4, hb4⟩
        obtain ⟨xa, xc, rfl⟩ := hx4.shape
        have NX := hid ((Below.refl w4.heap.size w4).alloc (Nat.le_refl _) (.cells #[.slice xa ch.length xc] 27))
        have BX := hid (hb4.trans (NX.out.mono hb4.size))
        have A4 := hid (A3.out.trans (BX.out.mono A3.out.size))
        have X4 := hid (hx4.alloc (.cells #[.slice xa ch.length xc] 27))
        have BS4 : Hid (Bs (w4.alloc (.cells #[.slice xa ch.length xc] 27)) [(w.heap.size, [.int .u32 lo, .int .u32 hi, .int .u32 co, .string t, .int .i64 i], 54), (w.heap.size + 1, [.slice ao ch.length cap], 45), (PA, [.int .u32 RL, .int .u32 RH, .int .u32 RO, .string t, .int .i64 RI], 38), (PB, [yw], 27), (w4.heap.size, [.slice xa ch.length xc], 27)]) := by
          intro y hy
          simp only [List.mem_cons, List.not_mem_nil, or_false] at hy
          rcases hy with rfl | rfl | rfl | rfl | rfl
          · exact (BS3.out.below BX.out).get (by simp)
          · exact (BS3.out.below BX.out).get (by simp)
          · exact (BS3.out.below BX.out).get (by simp)
          · exact (BS3.out.below BX.out).get (by simp)
          · exact Blk.new w4 [.slice xa ch.length xc] 27
        have W4 := hid (W3.out.below BX.out)
        have HX3 := hid hb4.size
        clear hx4 hb4 m3 NX BX
        go_wp2_with fail
        generalize hw5 : w4.alloc (.cells #[.slice xa ch.length xc] 27) = w5 at *
        generalize hXB : w4.heap.size = XB at *
        have A5 := hid A4.out
        have X5 := hid X4.out
        have BS5 := hid BS4.out
        have W5 := hid W4.out
        have HX5 := hid X4.out
        have HW5 := hid (show w3.heap.size ≤ w5.heap.size from X4.out.1)
        clear hw5 hXB A4 X4 BS4 W4
        go_cut [13, 14, 15, 16] from 47 to 56 (fun p q r o wx => ∃ A1 A2 y, p = .pointer (some ⟨A1, 0, none⟩) ∧ q = .pointer (some ⟨A2, 0, none⟩) ∧ r = .int .i64 NN ∧ o = .bool RB ∧ w5.heap.size ≤ A1 ∧ w5.heap.size ≤ A2 ∧ Blk wx A1 [.int .u32 RL, .int .u32 RH, .int .u32 RO, .string t, .int .i64 RI] 38 ∧ Blk wx A2 [y] 27 ∧ Own wx w5.heap.size 3 .i64 y RC ∧ Below w5.heap.size w5 wx)
        case first =>
          refine wp_region_any (by kernel_rfl) ?_
          refine wpAny_inv (fun listed a wq => ∃ u : Nat → Value, a = { tmps := #[Value.agg #[Value.int IntKind.u32 lo, Value.int IntKind.u32 hi, Value.int IntKind.u32 co, Value.string t, Value.int IntKind.i64 i], Value.agg #[Value.slice ao ch.length cap], Value.int IntKind.i64 B, Value.pointer (some ⟨w.heap.size, 0, none⟩), Value.pointer (some ⟨w.heap.size + 1, 0, none⟩), undef, Value.bool false, Value.int IntKind.i64 (1048576 - (t.size : Int) - (ch.length : Int)), Value.pointer (some ⟨PA, 0, none⟩), Value.pointer (some ⟨PB, 0, none⟩), Value.int IntKind.i64 NN, Value.bool RB, Value.pointer (some ⟨XB, 0, none⟩), u 13, u 14, u 15, u 16, undef, undef, undef, undef, undef, undef, undef, Value.agg #[Value.int IntKind.u32 lo, Value.int IntKind.u32 hi, Value.int IntKind.u32 co, Value.string t, Value.int IntKind.i64 i], Value.int IntKind.i64 1048576, Value.int IntKind.i64 (1048576 - (t.size : Int)), Value.int IntKind.i64 (1048576 - (t.size : Int)), Value.bool (decide ((1048576 : Int) - t.size < 0)), Value.agg #[Value.slice ao ch.length cap], Value.int IntKind.i64 (1048576 - (t.size : Int)), Value.int IntKind.i64 (1048576 - (t.size : Int) - (ch.length : Int)), Value.int IntKind.i64 (1048576 - (t.size : Int) - (ch.length : Int)), Value.bool (decide ((1048576 : Int) - t.size - (ch.length : Int) < 0)), u34, u35, u36, u37, u38, u39, u40, u41, u42, u43, u44, Value.agg #[Value.slice ao ch.length cap], Value.agg #[Value.slice xa ch.length xc], u 47, u 48, u 49, u 50, u 51, u 52, u 53, u 54, u 55, u 56, undef, undef, undef, undef, undef, undef, undef, undef, undef, undef, undef, undef, undef, undef, undef, undef, undef, undef, undef, undef, undef, undef, undef, undef, undef, undef, undef, undef, undef, undef, undef, undef, undef, undef, undef, undef, undef, undef, undef, undef, undef, undef, undef, undef, undef, undef, undef, undef, undef, undef, undef, undef, undef, undef, undef, undef, undef, undef, undef, undef, undef, undef, undef, undef, undef, undef, undef, undef, undef, undef, undef, undef, undef, undef, undef, undef, undef, undef, undef, undef, undef, undef, undef, undef, undef, undef, undef, undef, undef, undef, undef, undef, undef, undef, undef, undef, undef, undef, undef, undef, undef, undef], defers := [] } ∧ Below w5.heap.size w5 wq ∧ Facts 16 (fun j => VG lo hi co i t (.agg #[.slice ao ch.length cap]) (.agg #[.slice xa ch.length xc]) B RL RH RO RI NN RB ch RC w5.heap.size (Ke j)) De listed u wq) ?hpre ?hstep ?hend _ _ _ _ rfl (by decide) (fun j oj _ hl => absurd hl (by simp [Array.getD])) ⟨fun k => undef, rfl, (Below.refl _ _).drew, fun j hj hl => absurd hl (by simp [Array.getD])⟩
          case hpre => exact pre_of (by kernel_rfl)
          case hend =>
            rintro listed a wq hall ⟨u, rfl, hb, hF⟩
            obtain ⟨A1, e1, m1, b1⟩ : ∃ A1, u 13 = .pointer (some ⟨A1, 0, none⟩) ∧ w5.heap.size ≤ A1 ∧ Blk wq A1 [.int .u32 RL, .int .u32 RH, .int .u32 RO, .string t, .int .i64 RI] 38 := hF 12 (by decide) (hall 12 (by decide))
            obtain ⟨A2, y, e2, m2, b2, o2⟩ : ∃ A2 y, u 14 = .pointer (some ⟨A2, 0, none⟩) ∧ w5.heap.size ≤ A2 ∧ Blk wq A2 [y] 27 ∧ Own wq w5.heap.size 3 .i64 y RC := hF 13 (by decide) (hall 13 (by decide))
            have e3 : u 15 = .int .i64 NN := hF 14 (by decide) (hall 14 (by decide))
            have e4 : u 16 = .bool RB := hF 15 (by decide) (hall 15 (by decide))
            go_wp2_with fail
            go_meet
            exact ⟨A1, A2, y, e1, e2, e3, e4, m1, m2, b1, b2, o2, hb⟩
          case hstep =>
            rintro listed a wq jx o hsz ⟨u, rfl, hb, hF⟩ ho hall hun hcl
            have hin : jx < 16 := (Array.getElem?_eq_some_iff.1 ho).1
            have BQ := BS5.out.below hb
            have c20 := (BQ.get (b := w.heap.size) (l := [.int .u32 lo, .int .u32 hi, .int .u32 co, .string t, .int .i64 i]) (t := 54) (by simp)).cell (i := 0) rfl
            have c21 := (BQ.get (b := w.heap.size) (l := [.int .u32 lo, .int .u32 hi, .int .u32 co, .string t, .int .i64 i]) (t := 54) (by simp)).cell (i := 1) rfl
            have c22 := (BQ.get (b := w.heap.size) (l := [.int .u32 lo, .int .u32 hi, .int .u32 co, .string t, .int .i64 i]) (t := 54) (by simp)).cell (i := 2) rfl
            have c23 := (BQ.get (b := w.heap.size) (l := [.int .u32 lo, .int .u32 hi, .int .u32 co, .string t, .int .i64 i]) (t := 54) (by simp)).cell (i := 3) rfl
            have c24 := (BQ.get (b := w.heap.size) (l := [.int .u32 lo, .int .u32 hi, .int .u32 co, .string t, .int .i64 i]) (t := 54) (by simp)).cell (i := 4) rfl
            have m2 := (BQ.get (b := w.heap.size + 1) (l := [.slice ao ch.length cap]) (t := 45) (by simp)).cell (i := 0) rfl
            have x2 := (BQ.get (b := XB) (l := [.slice xa ch.length xc]) (t := 27) (by simp)).cell (i := 0) rfl
            have BE : Hid (∀ (wz : World), Below wq.heap.size wq wz → ∀ j (z : Value), j < 16 → (fun j => VG lo hi co i t (.agg #[.slice ao ch.length cap]) (.agg #[.slice xa ch.length xc]) B RL RH RO RI NN RB ch RC w5.heap.size (Ke j)) j z wq → (fun j => VG lo hi co i t (.agg #[.slice ao ch.length cap]) (.agg #[.slice xa ch.length xc]) B RL RH RO RI NN RB ch RC w5.heap.size (Ke j)) j z wz) := fun wz hbz j z _ h => VG.below hbz _ _ h
            have BZ : Hid (∀ (wz : World), Below wq.heap.size wq wz → Below w5.heap.size w5 wz) := fun wz hbz => hb.trans (hbz.mono hb.size)
            have ST : Hid (jx ≠ 10 → jx ≠ 11 → jx ≠ 12 → jx ≠ 13 → ∀ (wz : World) (v : Value), Below wq.heap.size wq wz → (fun j => VG lo hi co i t (.agg #[.slice ao ch.length cap]) (.agg #[.slice xa ch.length xc]) B RL RH RO RI NN RB ch RC w5.heap.size (Ke j)) jx v wz → Below w5.heap.size w5 wz ∧ Facts 16 (fun j => VG lo hi co i t (.agg #[.slice ao ch.length cap]) (.agg #[.slice xa ch.length xc]) B RL RH RO RI NN RB ch RC w5.heap.size (Ke j)) De (listed.setIfInBounds jx true) (upd u (De jx) v) wz) := fun h1 h2 h3 h4 wz v hbz hv => ⟨BZ.out wz hbz, hF.step jx v (fun j hj hne _ => De_ne ⟨jx, hin⟩ ⟨j, hj⟩ (fun e => hne (congrArg Fin.val e)) h1 h2 h3 h4) (BE.out wz hbz) hv⟩
            obtain rfl | rfl | rfl | rfl | rfl | rfl | rfl | rfl | rfl | rfl | rfl | rfl | rfl | rfl | rfl | rfl : jx = 0 ∨ jx = 1 ∨ jx = 2 ∨ jx = 3 ∨ jx = 4 ∨ jx = 5 ∨ jx = 6 ∨ jx = 7 ∨ jx = 8 ∨ jx = 9 ∨ jx = 10 ∨ jx = 11 ∨ jx = 12 ∨ jx = 13 ∨ jx = 14 ∨ jx = 15 := by omega
            · cases ho
              refine wpOp_step rfl (fun K hK => ?_)
              go_simp
              refine hK _ _ ⟨upd u 48 (.agg #[.int .u32 lo, .int .u32 hi, .int .u32 co, .string t, .int .i64 i]), ?_, ST.out (by decide) (by decide) (by decide) (by decide) _ _ (Below.refl _ _) (rfl)⟩
              simp [upd]
            · cases ho
              have f0 : u 48 = .agg #[.int .u32 lo, .int .u32 hi, .int .u32 co, .string t, .int .i64 i] := hF 0 (by decide) (hall ⟨0, .data⟩ (by simp) rfl)
              refine wpOp_step rfl (fun K hK => ?_)
              simp only [f0]
              go_simp
              go_wp2_with (go_at_call 27; refine (HTC.out wq).mono ?_; rintro e wz ⟨rfl, hbz⟩)
              first | refine hK _ _ ⟨upd u 49 (.agg #[.int .u32 lo, .int .u32 hi, .int .u32 co, .string t, .int .i64 i]), ?_, ST.out (by decide) (by decide) (by decide) (by decide) _ _ hbz rfl⟩ | refine ⟨upd u 49 (.agg #[.int .u32 lo, .int .u32 hi, .int .u32 co, .string t, .int .i64 i]), ?_, ST.out (by decide) (by decide) (by decide) (by decide) _ _ hbz rfl⟩
              simp [upd, f0]
            · cases ho
              refine wpOp_step rfl (fun K hK => ?_)
              go_simp
              refine hK _ _ ⟨upd u 50 ((.agg #[.slice xa ch.length xc])), ?_, ST.out (by decide) (by decide) (by decide) (by decide) _ _ (Below.refl _ _) (rfl)⟩
              simp [upd]
            · cases ho
              refine wpOp_step rfl (fun K hK => ?_)
              go_simp
              refine hK _ _ ⟨upd u 51 (.int .i64 B), ?_, ST.out (by decide) (by decide) (by decide) (by decide) _ _ (Below.refl _ _) (rfl)⟩
              simp [upd]
            · cases ho
              have f1 : u 49 = .agg #[.int .u32 lo, .int .u32 hi, .int .u32 co, .string t, .int .i64 i] := hF 1 (by decide) (hall ⟨1, .data⟩ (by simp) rfl)
              have f2 : u 50 = (.agg #[.slice xa ch.length xc]) := hF 2 (by decide) (hall ⟨2, .data⟩ (by simp) rfl)
              have f3 : u 51 = .int .i64 B := hF 3 (by decide) (hall ⟨3, .data⟩ (by simp) rfl)
              refine wpOp_step rfl (fun K hK => ?_)
              simp only [f1, f2, f3]
              go_simp
              go_wp2_with (go_at_call 14; refine (HIP.out (.slice xa ch.length xc) wq (X5.out.below hb).vp).mono ?_; rintro e wz ⟨y, rfl, oy, hbz⟩)
              first | refine hK _ _ ⟨upd u 52 (.tuple #[.agg #[.int .u32 RL, .int .u32 RH, .int .u32 RO, .string t, .int .i64 RI], .agg #[y], .int .i64 NN, .bool RB]), ?_, ST.out (by decide) (by decide) (by decide) (by decide) _ _ hbz ⟨y, rfl, oy.lower hb.size⟩⟩ | refine ⟨upd u 52 (.tuple #[.agg #[.int .u32 RL, .int .u32 RH, .int .u32 RO, .string t, .int .i64 RI], .agg #[y], .int .i64 NN, .bool RB]), ?_, ST.out (by decide) (by decide) (by decide) (by decide) _ _ hbz ⟨y, rfl, oy.lower hb.size⟩⟩
              simp [upd, f1, f2, f3]
            · cases ho
              obtain ⟨y4, f4, o4⟩ : ∃ y, u 52 = .tuple #[.agg #[.int .u32 RL, .int .u32 RH, .int .u32 RO, .string t, .int .i64 RI], .agg #[y], .int .i64 NN, .bool RB] ∧ Own wq w5.heap.size 3 .i64 y RC := hF 4 (by decide) (hall ⟨4, .data⟩ (by simp) rfl)
              refine wpOp_step rfl (fun K hK => ?_)
              simp only [f4]
              go_simp
              refine hK _ _ ⟨upd u 47 (.tuple #[.agg #[.int .u32 RL, .int .u32 RH, .int .u32 RO, .string t, .int .i64 RI], .agg #[y4], .int .i64 NN, .bool RB]), ?_, ST.out (by decide) (by decide) (by decide) (by decide) _ _ (Below.refl _ _) ⟨y4, rfl, o4⟩⟩
              simp [upd, f4]
            · cases ho
              obtain ⟨y5, f5, o5⟩ : ∃ y, u 47 = .tuple #[.agg #[.int .u32 RL, .int .u32 RH, .int .u32 RO, .string t, .int .i64 RI], .agg #[y], .int .i64 NN, .bool RB] ∧ Own wq w5.heap.size 3 .i64 y RC := hF 5 (by decide) (hall ⟨5, .data⟩ (by simp) rfl)
              refine wpOp_step rfl (fun K hK => ?_)
              simp only [f5]
              go_simp
              refine hK _ _ ⟨upd u 53 (.agg #[.int .u32 RL, .int .u32 RH, .int .u32 RO, .string t, .int .i64 RI]), ?_, ST.out (by decide) (by decide) (by decide) (by decide) _ _ (Below.refl _ _) (rfl)⟩
              simp [upd, f5]
            · cases ho
              obtain ⟨y5, f5, o5⟩ : ∃ y, u 47 = .tuple #[.agg #[.int .u32 RL, .int .u32 RH, .int .u32 RO, .string t, .int .i64 RI], .agg #[y], .int .i64 NN, .bool RB] ∧ Own wq w5.heap.size 3 .i64 y RC := hF 5 (by decide) (hall ⟨5, .data⟩ (by simp) rfl)
              refine wpOp_step rfl (fun K hK => ?_)
              simp only [f5]
              go_simp
              refine hK _ _ ⟨upd u 54 (.agg #[y5]), ?_, ST.out (by decide) (by decide) (by decide) (by decide) _ _ (Below.refl _ _) ⟨y5, rfl, o5⟩⟩
              simp [upd, f5]
            · cases ho
              obtain ⟨y5, f5, o5⟩ : ∃ y, u 47 = .tuple #[.agg #[.int .u32 RL, .int .u32 RH, .int .u32 RO, .string t, .int .i64 RI], .agg #[y], .int .i64 NN, .bool RB] ∧ Own wq w5.heap.size 3 .i64 y RC := hF 5 (by decide) (hall ⟨5, .data⟩ (by simp) rfl)
              refine wpOp_step rfl (fun K hK => ?_)
              simp only [f5]
              go_simp
              refine hK _ _ ⟨upd u 55 (.int .i64 NN), ?_, ST.out (by decide) (by decide) (by decide) (by decide) _ _ (Below.refl _ _) (rfl)⟩
              simp [upd, f5]
            · cases ho
              obtain ⟨y5, f5, o5⟩ : ∃ y, u 47 = .tuple #[.agg #[.int .u32 RL, .int .u32 RH, .int .u32 RO, .string t, .int .i64 RI], .agg #[y], .int .i64 NN, .bool RB] ∧ Own wq w5.heap.size 3 .i64 y RC := hF 5 (by decide) (hall ⟨5, .data⟩ (by simp) rfl)
              refine wpOp_step rfl (fun K hK => ?_)
              simp only [f5]
              go_simp
              refine hK _ _ ⟨upd u 56 (.bool RB), ?_, ST.out (by decide) (by decide) (by decide) (by decide) _ _ (Below.refl _ _) (rfl)⟩
              simp [upd, f5]
            · cases ho
              refine wpOp_step rfl (fun K hK => ?_)
              go_simp
              have hno : ∀ j, j < 16 → j ≠ 10 → listed.getD j false = true → De j ≠ De 10 := fun j hj hne hl => by
                refine De_ne11 ⟨j, hj⟩ hne ?_
                intro e
                have e : j = 12 := e
                subst e
                have := hcl 12 _ rfl hl ⟨10, .data⟩ (by simp) rfl
                rw [Array.getD] at this hun
                split at this
                · rename_i h; rw [dif_pos h] at hun; rw [this] at hun; cases hun
                · cases this
              have hbz : Below wq.heap.size wq (wq.alloc (.cells #[.int .u32 0, .int .u32 0, .int .u32 0, .string ⟨#[]⟩, .int .i64 0] 38)) := (Below.refl _ _).alloc (Nat.le_refl _) _
              refine hK _ _ ⟨upd u 13 (.pointer (some ⟨wq.heap.size, 0, none⟩)), ?_, BZ.out _ hbz, hF.step 10 _ hno (BE.out _ hbz) ⟨_, _, _, _, _, _, rfl, hb.size, Blk.new wq [.int .u32 0, .int .u32 0, .int .u32 0, .string ⟨#[]⟩, .int .i64 0] 38⟩⟩
              simp [upd]
            · cases ho
              refine wpOp_step rfl (fun K hK => ?_)
              go_simp
              have hno : ∀ j, j < 16 → j ≠ 11 → listed.getD j false = true → De j ≠ De 11 := fun j hj hne hl => by
                refine De_ne12 ⟨j, hj⟩ hne ?_
                intro e
                have e : j = 13 := e
                subst e
                have := hcl 13 _ rfl hl ⟨11, .data⟩ (by simp) rfl
                rw [Array.getD] at this hun
                split at this
                · rename_i h; rw [dif_pos h] at hun; rw [this] at hun; cases hun
                · cases this
              have hbz : Below wq.heap.size wq (wq.alloc (.cells #[.slice none 0 0] 27)) := (Below.refl _ _).alloc (Nat.le_refl _) _
              refine hK _ _ ⟨upd u 14 (.pointer (some ⟨wq.heap.size, 0, none⟩)), ?_, BZ.out _ hbz, hF.step 11 _ hno (BE.out _ hbz) ⟨_, _, rfl, hb.size, Blk.new wq [.slice none 0 0] 27⟩⟩
              simp [upd]
            · cases ho
              obtain ⟨A10, p10, q10, r10, v10, z10, f10, m10, b10⟩ : ∃ A a b c d e, u 13 = .pointer (some ⟨A, 0, none⟩) ∧ w5.heap.size ≤ A ∧ Blk wq A [a, b, c, d, e] 38 := hF 10 (by decide) (hall ⟨10, .data⟩ (by simp) rfl)
              have f6 : u 53 = .agg #[.int .u32 RL, .int .u32 RH, .int .u32 RO, .string t, .int .i64 RI] := hF 6 (by decide) (hall ⟨6, .data⟩ (by simp) rfl)
              have c0 := b10.cell (i := 0) rfl
              have g0 := b10.free 0
              have c1 := b10.cell (i := 1) rfl
              have g1 := b10.free 1
              have c2 := b10.cell (i := 2) rfl
              have g2 := b10.free 2
              have c3 := b10.cell (i := 3) rfl
              have g3 := b10.free 3
              have c4 := b10.cell (i := 4) rfl
              have g4 := b10.free 4
              refine wpOp_step rfl (fun K hK => ?_)
              simp only [f10, f6]
              go_simp
              refine hK _ _ ⟨u, ?_, ?_, hF.keep 12 (fun j x _ h => VG.st38 b10 _ _ h) ?_⟩
              · simp [f10, f6]
              · exact ((((hb.setCell (p := ⟨A10, 0, none⟩) m10 _).setCell (p := ⟨A10, 1, none⟩) m10 _).setCell (p := ⟨A10, 2, none⟩) m10 _).setCell (p := ⟨A10, 3, none⟩) m10 _).setCell (p := ⟨A10, 4, none⟩) m10 _
              · exact ⟨A10, f10, m10, ((((b10.set 0 _).set 1 _).set 2 _).set 3 _).set 4 _⟩
            · cases ho
              obtain ⟨A11, p11, f11, m11, b11⟩ : ∃ A a, u 14 = .pointer (some ⟨A, 0, none⟩) ∧ w5.heap.size ≤ A ∧ Blk wq A [a] 27 := hF 11 (by decide) (hall ⟨11, .data⟩ (by simp) rfl)
              obtain ⟨y7, f7, o7⟩ : ∃ y, u 54 = .agg #[y] ∧ Own wq w5.heap.size 3 .i64 y RC := hF 7 (by decide) (hall ⟨7, .data⟩ (by simp) rfl)
              obtain ⟨ya, yc, hy⟩ := o7.shape
              subst hy
              have c0 := b11.cell (i := 0) rfl
              have g0 := b11.free 0
              refine wpOp_step rfl (fun K hK => ?_)
              simp only [f11, f7]
              go_simp
              refine hK _ _ ⟨u, ?_, ?_, hF.keep 13 (fun j x _ h => VG.st27 b11 o7 _ _ h) ?_⟩
              · simp [f11, f7]
              · exact hb.setCell (p := ⟨A11, 0, none⟩) m11 _
              · exact ⟨A11, _, f11, m11, b11.set 0 _, o7.typed b11 (by decide) _⟩
            · cases ho
              have f8 : u 55 = .int .i64 NN := hF 8 (by decide) (hall ⟨8, .data⟩ (by simp) rfl)
              refine wpOp_step rfl (fun K hK => ?_)
              simp only [f8]
              go_simp
              refine hK _ _ ⟨upd u 15 (.int .i64 NN), ?_, ST.out (by decide) (by decide) (by decide) (by decide) _ _ (Below.refl _ _) (rfl)⟩
              simp [upd, f8]
            · cases ho
              have f9 : u 56 = .bool RB := hF 9 (by decide) (hall ⟨9, .data⟩ (by simp) rfl)
              refine wpOp_step rfl (fun K hK => ?_)
              simp only [f9]
              go_simp
              refine hK _ _ ⟨upd u 16 (.bool RB), ?_, ST.out (by decide) (by decide) (by decide) (by decide) _ _ (Below.refl _ _) (rfl)⟩
              simp [upd, f9]
        case rest =>
          obtain ⟨GA, GB, yg, rfl, rfl, rfl, rfl, hGA, hGB, hB1, hB2, hO, hbx⟩ := hcut
          generalize hwc : wc = w6 at *
          clear hwc
          have BS6 : Hid (Bs w6 [(w.heap.size, [.int .u32 lo, .int .u32 hi, .int .u32 co, .string t, .int .i64 i], 54), (w.heap.size + 1, [.slice ao ch.length cap], 45), (PA, [.int .u32 RL, .int .u32 RH, .int .u32 RO, .string t, .int .i64 RI], 38), (PB, [yw], 27), (XB, [.slice xa ch.length xc], 27), (GA, [.int .u32 RL, .int .u32 RH, .int .u32 RO, .string t, .int .i64 RI], 38), (GB, [yg], 27)]) := by
            intro y hy
            simp only [List.mem_cons, List.not_mem_nil, or_false] at hy
            rcases hy with rfl | rfl | rfl | rfl | rfl | rfl | rfl
            · exact (BS5.out.below hbx).get (by simp)
            · exact (BS5.out.below hbx).get (by simp)
            · exact (BS5.out.below hbx).get (by simp)
            · exact (BS5.out.below hbx).get (by simp)
            · exact (BS5.out.below hbx).get (by simp)
            · exact hB1
            · exact hB2
          have A6 := hid (A5.out.trans (hbx.mono A5.out.size))
          have W6 := hid (W5.out.below hbx)
          have X6 := hid (X5.out.below hbx)
          have G6 := hid hO
          obtain ⟨wa, wcp, rfl⟩ := hid_shape W6
          obtain ⟨ga, gcp, rfl⟩ := hid_shape G6
          have hgX : Hid (∀ (a : Addr) n c, (Value.slice xa ch.length xc) = .slice (some a) n c → w3.heap.size ≤ a.block ∧ a.block < w5.heap.size) := fun a n c h => by
            have h5 := HX5.out
            rw [h] at h5
            exact h5.ge
          have hgG : Hid (∀ (a : Addr) n c, (Value.slice ga RC.length gcp) = .slice (some a) n c → w5.heap.size ≤ a.block ∧ a.block < w6.heap.size) := fun a n c h => by
            have h5 := G6.out
            rw [h] at h5
            exact h5.ge
          have HGA := hid hGA
          have HGB := hid hGB
          clear hbx hB1 hB2 hO hGA hGB BS5 A5 W5 X5 W3 BS3
          have w0a := (BS6.out.get (b := PA) (l := [.int .u32 RL, .int .u32 RH, .int .u32 RO, .string t, .int .i64 RI]) (t := 38) (by simp)).cell (i := 0) rfl
          have w0b := (BS6.out.get (b := PA) (l := [.int .u32 RL, .int .u32 RH, .int .u32 RO, .string t, .int .i64 RI]) (t := 38) (by simp)).cell (i := 1) rfl
          have w0c := (BS6.out.get (b := PA) (l := [.int .u32 RL, .int .u32 RH, .int .u32 RO, .string t, .int .i64 RI]) (t := 38) (by simp)).cell (i := 2) rfl
          have w0d := (BS6.out.get (b := PA) (l := [.int .u32 RL, .int .u32 RH, .int .u32 RO, .string t, .int .i64 RI]) (t := 38) (by simp)).cell (i := 3) rfl
          have w0e := (BS6.out.get (b := PA) (l := [.int .u32 RL, .int .u32 RH, .int .u32 RO, .string t, .int .i64 RI]) (t := 38) (by simp)).cell (i := 4) rfl
          have g0a := (BS6.out.get (b := GA) (l := [.int .u32 RL, .int .u32 RH, .int .u32 RO, .string t, .int .i64 RI]) (t := 38) (by simp)).cell (i := 0) rfl
          have g0b := (BS6.out.get (b := GA) (l := [.int .u32 RL, .int .u32 RH, .int .u32 RO, .string t, .int .i64 RI]) (t := 38) (by simp)).cell (i := 1) rfl
          have g0c := (BS6.out.get (b := GA) (l := [.int .u32 RL, .int .u32 RH, .int .u32 RO, .string t, .int .i64 RI]) (t := 38) (by simp)).cell (i := 2) rfl
          have g0d := (BS6.out.get (b := GA) (l := [.int .u32 RL, .int .u32 RH, .int .u32 RO, .string t, .int .i64 RI]) (t := 38) (by simp)).cell (i := 3) rfl
          have g0e := (BS6.out.get (b := GA) (l := [.int .u32 RL, .int .u32 RH, .int .u32 RO, .string t, .int .i64 RI]) (t := 38) (by simp)).cell (i := 4) rfl
          have w1a := (BS6.out.get (b := PB) (l := [.slice wa RC.length wcp]) (t := 27) (by simp)).cell (i := 0) rfl
          have g1a := (BS6.out.get (b := GB) (l := [.slice ga RC.length gcp]) (t := 27) (by simp)).cell (i := 0) rfl
          go_wp2_with fail
          refine (HEC.out w6).mono ?_
          rintro e w7 ⟨rfl, hb7⟩
          have BS7 := hid (BS6.out.below hb7)
          have A7 := hid (A6.out.trans (hb7.mono A6.out.size))
          have W7 := hid (W6.out.below hb7)
          have X7 := hid (X6.out.below hb7)
          have G7 := hid (G6.out.below hb7)
          have w1a_7 := (BS7.out.get (b := PB) (l := [.slice wa RC.length wcp]) (t := 27) (by simp)).cell (i := 0) rfl
          have g1a_7 := (BS7.out.get (b := GB) (l := [.slice ga RC.length gcp]) (t := 27) (by simp)).cell (i := 0) rfl
          have hRR : (RB != RB) = false := by simp
          have hNN : (NN != NN) = false := by simp
          clear w0a w0b w0c w0d w0e g0a g0b g0c g0d g0e w1a g1a
          clear hb7 BS6 A6 W6 X6 G6
          go_wp2_with fail
          refine (HEM.out _ _ w7 G7.out.vw W7.out.vw).mono ?_
          rintro e w8 ⟨rfl, hb8⟩
          have BS8 := hid (BS7.out.below hb8)
          have A8 := hid (A7.out.trans (hb8.mono A7.out.size))
          have W8 := hid (W7.out.below hb8)
          have X8 := hid (X7.out.below hb8)
          have G8 := hid (G7.out.below hb8)
          have x1a_8 := (BS8.out.get (b := XB) (l := [.slice xa ch.length xc]) (t := 27) (by simp)).cell (i := 0) rfl
          have m1a_8 := (BS8.out.get (b := (w.heap.size + 1)) (l := [.slice ao ch.length cap]) (t := 45) (by simp)).cell (i := 0) rfl
          clear hb8 BS7 A7 W7 X7 G7 w1a_7 g1a_7
          go_wp2_with fail
          go_cut [81] from 77 to 80 (fun c wx => c = .bool false ∧ Below w8.heap.size w8 wx)
          case first =>
            have HTM8 := hid (fun q (hq : Below w8.heap.size w8 q) => HTM.out q (A8.out.trans (hq.mono A8.out.size)))
            go_region_with (first
              | (go_at_call 20; refine (HTM8.out _ ?_).mono ?_; · first | exact (Below.refl _ _).drew | exact Below.refl _ _ | exact (Below.refl _ _).drew.drew
                 rintro e w9 ⟨v3, rfl, o3, hb9⟩
                 have hc9 : Below w8.heap.size w8 w9 := by first | exact Below.trans (Below.refl _ _).drew hb9 | exact hb9
                 have x1a_9 := ((BS8.out.below hc9).get (b := XB) (l := [.slice xa ch.length xc]) (t := 27) (by simp)).cell (i := 0) rfl)
              | (go_at_call 22; refine (HEX.out _ v3 _ ?_ ?_).mono ?_; · exact (X8.out.below hc9).vw
                 · exact o3.vw
                 rintro e w10 ⟨rfl, hb10⟩))
            all_goals
              go_wp2_with fail
              go_meet
              exact ⟨rfl, hc9.trans (hb10.mono hc9.size)⟩
          case rest =>
            obtain ⟨rfl, hb9⟩ := hcut
            generalize hwc : wc = w9 at *
            clear hwc
            have BS9 := hid (BS8.out.below hb9)
            have A9 := hid (A8.out.trans (hb9.mono A8.out.size))
            have W9 := hid (W8.out.below hb9)
            have X9 := hid (X8.out.below hb9)
            have G9 := hid (G8.out.below hb9)
            have x1a_9 := (BS9.out.get (b := XB) (l := [.slice xa ch.length xc]) (t := 27) (by simp)).cell (i := 0) rfl
            clear hb9 BS8 A8 W8 X8 G8 x1a_8 m1a_8
            have hqx : ¬ ((ch.length : Int) + 1 < 0) := by omega
            have hqr : ¬ ((RC.length : Int) + 1 < 0) := by omega
            go_wp2_with fail
            refine (HMX.out w3.heap.size _ w9 X9.out.1 X9.out).mono ?_
            rintro e w10 ⟨rfl, ho10, hb10, hk10⟩
            have BS10 := hid (BS9.out.marked X9.out hk10 (by simp))
            have A10 := hid (A9.out.trans (hb10.mono HW3.out))
            have W10 := hid (W9.out.kept hk10 hb10.size (fun a b n c m d e1 e2 => by
              have h1 := hgX.out a n c e1
              have h2 := hgW.out b m d e2
              omega))
            have G10 := hid (G9.out.kept hk10 hb10.size (fun a b n c m d e1 e2 => by
              have h1 := hgX.out a n c e1
              have h2 := hgG.out b m d e2
              omega))
            have w0a_10 := (BS10.out.get (b := PA) (l := [.int .u32 RL, .int .u32 RH, .int .u32 RO, .string t, .int .i64 RI]) (t := 38) (by simp)).cell (i := 0) rfl
            have w0b_10 := (BS10.out.get (b := PA) (l := [.int .u32 RL, .int .u32 RH, .int .u32 RO, .string t, .int .i64 RI]) (t := 38) (by simp)).cell (i := 1) rfl
            have w0c_10 := (BS10.out.get (b := PA) (l := [.int .u32 RL, .int .u32 RH, .int .u32 RO, .string t, .int .i64 RI]) (t := 38) (by simp)).cell (i := 2) rfl
            have w0d_10 := (BS10.out.get (b := PA) (l := [.int .u32 RL, .int .u32 RH, .int .u32 RO, .string t, .int .i64 RI]) (t := 38) (by simp)).cell (i := 3) rfl
            have w0e_10 := (BS10.out.get (b := PA) (l := [.int .u32 RL, .int .u32 RH, .int .u32 RO, .string t, .int .i64 RI]) (t := 38) (by simp)).cell (i := 4) rfl
            have g0a_10 := (BS10.out.get (b := GA) (l := [.int .u32 RL, .int .u32 RH, .int .u32 RO, .string t, .int .i64 RI]) (t := 38) (by simp)).cell (i := 0) rfl
            have g0b_10 := (BS10.out.get (b := GA) (l := [.int .u32 RL, .int .u32 RH, .int .u32 RO, .string t, .int .i64 RI]) (t := 38) (by simp)).cell (i := 1) rfl
            have g0c_10 := (BS10.out.get (b := GA) (l := [.int .u32 RL, .int .u32 RH, .int .u32 RO, .string t, .int .i64 RI]) (t := 38) (by simp)).cell (i := 2) rfl
            have g0d_10 := (BS10.out.get (b := GA) (l := [.int .u32 RL, .int .u32 RH, .int .u32 RO, .string t, .int .i64 RI]) (t := 38) (by simp)).cell (i := 3) rfl
            have g0e_10 := (BS10.out.get (b := GA) (l := [.int .u32 RL, .int .u32 RH, .int .u32 RO, .string t, .int .i64 RI]) (t := 38) (by simp)).cell (i := 4) rfl
            clear ho10 hb10 hk10 BS9 A9 W9 X9 G9 x1a_9
            go_wp2_with fail
            refine (HEC.out w10).mono ?_
            rintro e w11 ⟨rfl, hb11⟩
            have BS11 := hid (BS10.out.below hb11)
            have A11 := hid (A10.out.trans (hb11.mono A10.out.size))
            have W11 := hid (W10.out.below hb11)
            have G11 := hid (G10.out.below hb11)
            have w1a_11 := (BS11.out.get (b := PB) (l := [.slice wa RC.length wcp]) (t := 27) (by simp)).cell (i := 0) rfl
            have g1a_11 := (BS11.out.get (b := GB) (l := [.slice ga RC.length gcp]) (t := 27) (by simp)).cell (i := 0) rfl
            clear hb11 BS10 A10 W10 G10 w0a_10 w0b_10 w0c_10 w0d_10 w0e_10 g0a_10 g0b_10 g0c_10 g0d_10 g0e_10
            go_wp2_with fail
            refine (HEM.out _ _ w11 G11.out.vw W11.out.vw).mono ?_
            rintro e w12 ⟨rfl, hb12⟩
            have BS12 := hid (BS11.out.below hb12)
            have A12 := hid (A11.out.trans (hb12.mono A11.out.size))
            have W12 := hid (W11.out.below hb12)
            have G12 := hid (G11.out.below hb12)
            have g1a_12 := (BS12.out.get (b := GB) (l := [.slice ga RC.length gcp]) (t := 27) (by simp)).cell (i := 0) rfl
            clear hb12 BS11 A11 W11 G11 w1a_11 g1a_11
            go_wp2_with fail
            refine (HMR.out w5.heap.size _ w12 G12.out.1 G12.out).mono ?_
            rintro e w13 ⟨rfl, ho13, hb13, hk13⟩
            have BS13 := hid (BS12.out.marked G12.out hk13 (by simp))
            have A13 := hid (A12.out.trans (hb13.mono (Nat.le_trans HW3.out HW5.out)))
            have W13 := hid (W12.out.kept hk13 hb13.size (fun a b n c m d e1 e2 => by
              have h1 := hgG.out a n c e1
              have h2 := hgW.out b m d e2
              have h3 := HW5.out
              omega))
            have G13 := hid ho13
            have g1a_13 := (BS13.out.get (b := GB) (l := [.slice ga RC.length gcp]) (t := 27) (by simp)).cell (i := 0) rfl
            clear ho13 hb13 hk13 BS12 A12 W12 G12 g1a_12
            go_wp2_with fail
            refine (HHR.out _ w13 G13.out.vw).mono ?_
            rintro e w14 ⟨rfl, hb14⟩
            have BS14 := hid (BS13.out.below hb14)
            have A14 := hid (A13.out.trans (hb14.mono A13.out.size))
            have W14 := hid (W13.out.below hb14)
            have G14 := hid (G13.out.below hb14)
            clear hb14 BS13 A13 W13 G13 g1a_13
            go_wp2_with fail
            go_cut [20, 21, 22, 23] from 120 to 130 (fun p q r o wx => ∃ A1 A2 y, p = .pointer (some ⟨A1, 0, none⟩) ∧ q = .pointer (some ⟨A2, 0, none⟩) ∧ r = .int .i64 NN ∧ o = .bool RB ∧ w14.heap.size ≤ A1 ∧ w14.heap.size ≤ A2 ∧ Blk wx A1 [.int .u32 RL, .int .u32 RH, .int .u32 RO, .string t, .int .i64 RI] 38 ∧ Blk wx A2 [y] 27 ∧ Own wx w14.heap.size 3 .i64 y RC ∧ Below w14.heap.size w14 wx)
            case first =>
              refine wp_region_any (by kernel_rfl) ?_
              refine wpAny_inv (fun listed a wq => ∃ u : Nat → Value, a = { tmps := #[Value.agg #[Value.int IntKind.u32 lo, Value.int IntKind.u32 hi, Value.int IntKind.u32 co, Value.string t, Value.int IntKind.i64 i], Value.agg #[Value.slice ao ch.length cap], Value.int IntKind.i64 B, Value.pointer (some ⟨w.heap.size, 0, none⟩), Value.pointer (some ⟨w.heap.size + 1, 0, none⟩), undef, Value.bool false, Value.int IntKind.i64 (1048576 - (t.size : Int) - (ch.length : Int)), Value.pointer (some ⟨PA, 0, none⟩), Value.pointer (some ⟨PB, 0, none⟩), Value.int IntKind.i64 NN, Value.bool RB, Value.pointer (some ⟨XB, 0, none⟩), Value.pointer (some ⟨GA, 0, none⟩), Value.pointer (some ⟨GB, 0, none⟩), Value.int IntKind.i64 NN, Value.bool RB, Value.int IntKind.i64 ((ch.length : Int) + 1), Value.int IntKind.i64 ((RC.length : Int) + 1), Value.int IntKind.i64 ((RC.length : Int) + 1), u 20, u 21, u 22, u 23, Value.agg #[Value.int IntKind.u32 lo, Value.int IntKind.u32 hi, Value.int IntKind.u32 co, Value.string t, Value.int IntKind.i64 i], Value.int IntKind.i64 1048576, Value.int IntKind.i64 (1048576 - (t.size : Int)), Value.int IntKind.i64 (1048576 - (t.size : Int)), Value.bool (decide ((1048576 : Int) - t.size < 0)), Value.agg #[Value.slice ao ch.length cap], Value.int IntKind.i64 (1048576 - (t.size : Int)), Value.int IntKind.i64 (1048576 - (t.size : Int) - (ch.length : Int)), Value.int IntKind.i64 (1048576 - (t.size : Int) - (ch.length : Int)), Value.bool (decide ((1048576 : Int) - t.size - (ch.length : Int) < 0)), u34, u35, u36, u37, u38, u39, u40, u41, u42, u43, u44, Value.agg #[Value.slice ao ch.length cap], Value.agg #[Value.slice xa ch.length xc], u47, u48, u49, u50, u51, u52, u53, u54, u55, u56, Value.agg #[Value.int IntKind.u32 RL, Value.int IntKind.u32 RH, Value.int IntKind.u32 RO, Value.string t, Value.int IntKind.i64 RI], Value.agg #[Value.int IntKind.u32 RL, Value.int IntKind.u32 RH, Value.int IntKind.u32 RO, Value.string t, Value.int IntKind.i64 RI], Value.bool true, Value.bool false, Value.bool false, Value.agg #[Value.slice ga RC.length gcp], Value.agg #[Value.slice wa RC.length wcp], Value.bool true, Value.bool false, Value.bool false, Value.bool false, Value.int IntKind.i64 NN, Value.int IntKind.i64 NN, Value.bool false, Value.bool false, Value.bool false, Value.bool RB, Value.bool RB, Value.bool false, Value.bool false, u77, u78, u79, u80, Value.bool false, Value.agg #[Value.slice xa ch.length xc], Value.int IntKind.i64 1, Value.int IntKind.i64 ((ch.length : Int) + 1), Value.int IntKind.i64 ((ch.length : Int) + 1), Value.bool (decide ((ch.length : Int) + 1 < 0)), Value.bool (decide ((ch.length : Int) + 1 < 0)), Value.agg #[Value.int IntKind.u32 RL, Value.int IntKind.u32 RH, Value.int IntKind.u32 RO, Value.string t, Value.int IntKind.i64 RI], Value.agg #[Value.int IntKind.u32 RL, Value.int IntKind.u32 RH, Value.int IntKind.u32 RO, Value.string t, Value.int IntKind.i64 RI], Value.bool true, Value.bool false, Value.bool (decide ((ch.length : Int) + 1 < 0)), Value.bool (decide ((ch.length : Int) + 1 < 0)), Value.agg #[Value.slice ga RC.length gcp], Value.agg #[Value.slice wa RC.length wcp], Value.bool true, Value.bool false, Value.bool (decide ((ch.length : Int) + 1 < 0)), Value.bool (decide ((ch.length : Int) + 1 < 0)), Value.int IntKind.i64 NN, Value.int IntKind.i64 NN, Value.bool false, Value.bool (decide ((ch.length : Int) + 1 < 0)), Value.bool (decide ((ch.length : Int) + 1 < 0)), Value.bool RB, Value.bool RB, Value.bool false, Value.bool (decide ((ch.length : Int) + 1 < 0)), Value.agg #[Value.slice ga RC.length gcp], Value.int IntKind.i64 1, Value.int IntKind.i64 ((RC.length : Int) + 1), Value.agg #[Value.slice ga RC.length gcp], Value.int IntKind.i64 1, Value.int IntKind.i64 ((RC.length : Int) + 1), Value.int IntKind.i64 ((RC.length : Int) + 1), Value.bool (decide ((RC.length : Int) + 1 < 0)), Value.int IntKind.i64 ((RC.length : Int) + 1), Value.int IntKind.i64 ((RC.length : Int) + 1), Value.bool false, u 120, u 121, u 122, u 123, u 124, u 125, u 126, u 127, u 128, u 129, u 130, undef, undef, undef, undef, undef, undef, undef, undef, undef, undef, undef, undef, undef, undef, undef, undef, undef, undef, undef, undef, undef, undef, undef, undef, undef, undef, undef, undef], defers := [] } ∧ Below w14.heap.size w14 wq ∧ Facts 17 (fun j => VG lo hi co i t (.agg #[.slice ao ch.length cap]) (.bool false) B RL RH RO RI NN RB ch RC w14.heap.size (Kf j)) Df listed u wq) ?hpre ?hstep ?hend _ _ _ _ rfl (by decide) (fun j oj _ hl => absurd hl (by simp [Array.getD])) ⟨fun k => undef, rfl, (Below.refl _ _).drew, fun j hj hl => absurd hl (by simp [Array.getD])⟩
              case hpre => exact pre_of (by kernel_rfl)
              case hend =>
                rintro listed a wq hall ⟨u, rfl, hb, hF⟩
                obtain ⟨A1, e1, m1, b1⟩ : ∃ A1, u 20 = .pointer (some ⟨A1, 0, none⟩) ∧ w14.heap.size ≤ A1 ∧ Blk wq A1 [.int .u32 RL, .int .u32 RH, .int .u32 RO, .string t, .int .i64 RI] 38 := hF 13 (by decide) (hall 13 (by decide))
                obtain ⟨A2, y, e2, m2, b2, o2⟩ : ∃ A2 y, u 21 = .pointer (some ⟨A2, 0, none⟩) ∧ w14.heap.size ≤ A2 ∧ Blk wq A2 [y] 27 ∧ Own wq w14.heap.size 3 .i64 y RC := hF 14 (by decide) (hall 14 (by decide))
                have e3 : u 22 = .int .i64 NN := hF 15 (by decide) (hall 15 (by decide))
                have e4 : u 23 = .bool RB := hF 16 (by decide) (hall 16 (by decide))
                go_wp2_with fail
                go_meet
                exact ⟨A1, A2, y, e1, e2, e3, e4, m1, m2, b1, b2, o2, hb⟩
              case hstep =>
                rintro listed a wq jx o hsz ⟨u, rfl, hb, hF⟩ ho hall hun hcl
                have hin : jx < 17 := (Array.getElem?_eq_some_iff.1 ho).1
                have BQ := BS14.out.below hb
                have c20 := (BQ.get (b := w.heap.size) (l := [.int .u32 lo, .int .u32 hi, .int .u32 co, .string t, .int .i64 i]) (t := 54) (by simp)).cell (i := 0) rfl
                have c21 := (BQ.get (b := w.heap.size) (l := [.int .u32 lo, .int .u32 hi, .int .u32 co, .string t, .int .i64 i]) (t := 54) (by simp)).cell (i := 1) rfl
                have c22 := (BQ.get (b := w.heap.size) (l := [.int .u32 lo, .int .u32 hi, .int .u32 co, .string t, .int .i64 i]) (t := 54) (by simp)).cell (i := 2) rfl
                have c23 := (BQ.get (b := w.heap.size) (l := [.int .u32 lo, .int .u32 hi, .int .u32 co, .string t, .int .i64 i]) (t := 54) (by simp)).cell (i := 3) rfl
                have c24 := (BQ.get (b := w.heap.size) (l := [.int .u32 lo, .int .u32 hi, .int .u32 co, .string t, .int .i64 i]) (t := 54) (by simp)).cell (i := 4) rfl
                have m2 := (BQ.get (b := w.heap.size + 1) (l := [.slice ao ch.length cap]) (t := 45) (by simp)).cell (i := 0) rfl
                have BE : Hid (∀ (wz : World), Below wq.heap.size wq wz → ∀ j (z : Value), j < 17 → (fun j => VG lo hi co i t (.agg #[.slice ao ch.length cap]) (.bool false) B RL RH RO RI NN RB ch RC w14.heap.size (Kf j)) j z wq → (fun j => VG lo hi co i t (.agg #[.slice ao ch.length cap]) (.bool false) B RL RH RO RI NN RB ch RC w14.heap.size (Kf j)) j z wz) := fun wz hbz j z _ h => VG.below hbz _ _ h
                have BZ : Hid (∀ (wz : World), Below wq.heap.size wq wz → Below w14.heap.size w14 wz) := fun wz hbz => hb.trans (hbz.mono hb.size)
                have ST : Hid (jx ≠ 11 → jx ≠ 12 → jx ≠ 13 → jx ≠ 14 → ∀ (wz : World) (v : Value), Below wq.heap.size wq wz → (fun j => VG lo hi co i t (.agg #[.slice ao ch.length cap]) (.bool false) B RL RH RO RI NN RB ch RC w14.heap.size (Kf j)) jx v wz → Below w14.heap.size w14 wz ∧ Facts 17 (fun j => VG lo hi co i t (.agg #[.slice ao ch.length cap]) (.bool false) B RL RH RO RI NN RB ch RC w14.heap.size (Kf j)) Df (listed.setIfInBounds jx true) (upd u (Df jx) v) wz) := fun h1 h2 h3 h4 wz v hbz hv => ⟨BZ.out wz hbz, hF.step jx v (fun j hj hne _ => Df_ne ⟨jx, hin⟩ ⟨j, hj⟩ (fun e => hne (congrArg Fin.val e)) h1 h2 h3 h4) (BE.out wz hbz) hv⟩
                obtain rfl | rfl | rfl | rfl | rfl | rfl | rfl | rfl | rfl | rfl | rfl | rfl | rfl | rfl | rfl | rfl | rfl : jx = 0 ∨ jx = 1 ∨ jx = 2 ∨ jx = 3 ∨ jx = 4 ∨ jx = 5 ∨ jx = 6 ∨ jx = 7 ∨ jx = 8 ∨ jx = 9 ∨ jx = 10 ∨ jx = 11 ∨ jx = 12 ∨ jx = 13 ∨ jx = 14 ∨ jx = 15 ∨ jx = 16 := by omega
                · cases ho
                  refine wpOp_step rfl (fun K hK => ?_)
                  go_simp
                  refine hK _ _ ⟨upd u 121 (.agg #[.int .u32 lo, .int .u32 hi, .int .u32 co, .string t, .int .i64 i]), ?_, ST.out (by decide) (by decide) (by decide) (by decide) _ _ (Below.refl _ _) (rfl)⟩
                  simp [upd]
                · cases ho
                  have f0 : u 121 = .agg #[.int .u32 lo, .int .u32 hi, .int .u32 co, .string t, .int .i64 i] := hF 0 (by decide) (hall ⟨0, .data⟩ (by simp) rfl)
                  refine wpOp_step rfl (fun K hK => ?_)
                  simp only [f0]
                  go_simp
                  go_wp2_with (go_at_call 27; refine (HTC.out wq).mono ?_; rintro e wz ⟨rfl, hbz⟩)
                  first | refine hK _ _ ⟨upd u 122 (.agg #[.int .u32 lo, .int .u32 hi, .int .u32 co, .string t, .int .i64 i]), ?_, ST.out (by decide) (by decide) (by decide) (by decide) _ _ hbz rfl⟩ | refine ⟨upd u 122 (.agg #[.int .u32 lo, .int .u32 hi, .int .u32 co, .string t, .int .i64 i]), ?_, ST.out (by decide) (by decide) (by decide) (by decide) _ _ hbz rfl⟩
                  simp [upd, f0]
                · cases ho
                  refine wpOp_step rfl (fun K hK => ?_)
                  go_simp
                  refine hK _ _ ⟨upd u 123 (.agg #[.slice ao ch.length cap]), ?_, ST.out (by decide) (by decide) (by decide) (by decide) _ _ (Below.refl _ _) (rfl)⟩
                  simp [upd]
                · cases ho
                  have f2 : u 123 = .agg #[.slice ao ch.length cap] := hF 2 (by decide) (hall ⟨2, .data⟩ (by simp) rfl)
                  refine wpOp_step rfl (fun K hK => ?_)
                  simp only [f2]
                  go_simp
                  go_wp2_with (go_at_call 20; refine (HTM.out wq (A14.out.trans (hb.mono A14.out.size))).mono ?_; rintro e wz ⟨y, rfl, oy, hbz⟩)
                  first | refine hK _ _ ⟨upd u 124 (.agg #[y]), ?_, ST.out (by decide) (by decide) (by decide) (by decide) _ _ hbz ⟨y, rfl, oy.lower hb.size⟩⟩ | refine ⟨upd u 124 (.agg #[y]), ?_, ST.out (by decide) (by decide) (by decide) (by decide) _ _ hbz ⟨y, rfl, oy.lower hb.size⟩⟩
                  simp [upd, f2]
                · cases ho
                  refine wpOp_step rfl (fun K hK => ?_)
                  go_simp
                  refine hK _ _ ⟨upd u 125 (.int .i64 B), ?_, ST.out (by decide) (by decide) (by decide) (by decide) _ _ (Below.refl _ _) (rfl)⟩
                  simp [upd]
                · cases ho
                  have f1 : u 122 = .agg #[.int .u32 lo, .int .u32 hi, .int .u32 co, .string t, .int .i64 i] := hF 1 (by decide) (hall ⟨1, .data⟩ (by simp) rfl)
                  obtain ⟨y3, f3, o3⟩ : ∃ y, u 124 = .agg #[y] ∧ Own wq w14.heap.size 3 .i64 y ch := hF 3 (by decide) (hall ⟨3, .data⟩ (by simp) rfl)
                  have f4 : u 125 = .int .i64 B := hF 4 (by decide) (hall ⟨4, .data⟩ (by simp) rfl)
                  refine wpOp_step rfl (fun K hK => ?_)
                  simp only [f1, f3, f4]
                  go_simp
                  go_wp2_with (go_at_call 14; refine (HIP.out y3 wq o3.vp).mono ?_; rintro e wz ⟨y, rfl, oy, hbz⟩)
                  first | refine hK _ _ ⟨upd u 126 (.tuple #[.agg #[.int .u32 RL, .int .u32 RH, .int .u32 RO, .string t, .int .i64 RI], .agg #[y], .int .i64 NN, .bool RB]), ?_, ST.out (by decide) (by decide) (by decide) (by decide) _ _ hbz ⟨y, rfl, oy.lower hb.size⟩⟩ | refine ⟨upd u 126 (.tuple #[.agg #[.int .u32 RL, .int .u32 RH, .int .u32 RO, .string t, .int .i64 RI], .agg #[y], .int .i64 NN, .bool RB]), ?_, ST.out (by decide) (by decide) (by decide) (by decide) _ _ hbz ⟨y, rfl, oy.lower hb.size⟩⟩
                  simp [upd, f1, f3, f4]
                · cases ho
                  obtain ⟨y5, f5, o5⟩ : ∃ y, u 126 = .tuple #[.agg #[.int .u32 RL, .int .u32 RH, .int .u32 RO, .string t, .int .i64 RI], .agg #[y], .int .i64 NN, .bool RB] ∧ Own wq w14.heap.size 3 .i64 y RC := hF 5 (by decide) (hall ⟨5, .data⟩ (by simp) rfl)
                  refine wpOp_step rfl (fun K hK => ?_)
                  simp only [f5]
                  go_simp
                  refine hK _ _ ⟨upd u 120 (.tuple #[.agg #[.int .u32 RL, .int .u32 RH, .int .u32 RO, .string t, .int .i64 RI], .agg #[y5], .int .i64 NN, .bool RB]), ?_, ST.out (by decide) (by decide) (by decide) (by decide) _ _ (Below.refl _ _) ⟨y5, rfl, o5⟩⟩
                  simp [upd, f5]
                · cases ho
                  obtain ⟨y6, f6, o6⟩ : ∃ y, u 120 = .tuple #[.agg #[.int .u32 RL, .int .u32 RH, .int .u32 RO, .string t, .int .i64 RI], .agg #[y], .int .i64 NN, .bool RB] ∧ Own wq w14.heap.size 3 .i64 y RC := hF 6 (by decide) (hall ⟨6, .data⟩ (by simp) rfl)
                  refine wpOp_step rfl (fun K hK => ?_)
                  simp only [f6]
                  go_simp
                  refine hK _ _ ⟨upd u 127 (.agg #[.int .u32 RL, .int .u32 RH, .int .u32 RO, .string t, .int .i64 RI]), ?_, ST.out (by decide) (by decide) (by decide) (by decide) _ _ (Below.refl _ _) (rfl)⟩
                  simp [upd, f6]
                · cases ho
                  obtain ⟨y6, f6, o6⟩ : ∃ y, u 120 = .tuple #[.agg #[.int .u32 RL, .int .u32 RH, .int .u32 RO, .string t, .int .i64 RI], .agg #[y], .int .i64 NN, .bool RB] ∧ Own wq w14.heap.size 3 .i64 y RC := hF 6 (by decide) (hall ⟨6, .data⟩ (by simp) rfl)
                  refine wpOp_step rfl (fun K hK => ?_)
                  simp only [f6]
                  go_simp
                  refine hK _ _ ⟨upd u 128 (.agg #[y6]), ?_, ST.out (by decide) (by decide) (by decide) (by decide) _ _ (Below.refl _ _) ⟨y6, rfl, o6⟩⟩
                  simp [upd, f6]
                · cases ho
                  obtain ⟨y6, f6, o6⟩ : ∃ y, u 120 = .tuple #[.agg #[.int .u32 RL, .int .u32 RH, .int .u32 RO, .string t, .int .i64 RI], .agg #[y], .int .i64 NN, .bool RB] ∧ Own wq w14.heap.size 3 .i64 y RC := hF 6 (by decide) (hall ⟨6, .data⟩ (by simp) rfl)
                  refine wpOp_step rfl (fun K hK => ?_)
                  simp only [f6]
                  go_simp
                  refine hK _ _ ⟨upd u 129 (.int .i64 NN), ?_, ST.out (by decide) (by decide) (by decide) (by decide) _ _ (Below.refl _ _) (rfl)⟩
                  simp [upd, f6]
                · cases ho
                  obtain ⟨y6, f6, o6⟩ : ∃ y, u 120 = .tuple #[.agg #[.int .u32 RL, .int .u32 RH, .int .u32 RO, .string t, .int .i64 RI], .agg #[y], .int .i64 NN, .bool RB] ∧ Own wq w14.heap.size 3 .i64 y RC := hF 6 (by decide) (hall ⟨6, .data⟩ (by simp) rfl)
                  refine wpOp_step rfl (fun K hK => ?_)
                  simp only [f6]
                  go_simp
                  refine hK _ _ ⟨upd u 130 (.bool RB), ?_, ST.out (by decide) (by decide) (by decide) (by decide) _ _ (Below.refl _ _) (rfl)⟩
                  simp [upd, f6]
                · cases ho
                  refine wpOp_step rfl (fun K hK => ?_)
                  go_simp
                  have hno : ∀ j, j < 17 → j ≠ 11 → listed.getD j false = true → Df j ≠ Df 11 := fun j hj hne hl => by
                    refine Df_ne11 ⟨j, hj⟩ hne ?_
                    intro e
                    have e : j = 13 := e
                    subst e
                    have := hcl 13 _ rfl hl ⟨11, .data⟩ (by simp) rfl
                    rw [Array.getD] at this hun
                    split at this
                    · rename_i h; rw [dif_pos h] at hun; rw [this] at hun; cases hun
                    · cases this
                  have hbz : Below wq.heap.size wq (wq.alloc (.cells #[.int .u32 0, .int .u32 0, .int .u32 0, .string ⟨#[]⟩, .int .i64 0] 38)) := (Below.refl _ _).alloc (Nat.le_refl _) _
                  refine hK _ _ ⟨upd u 20 (.pointer (some ⟨wq.heap.size, 0, none⟩)), ?_, BZ.out _ hbz, hF.step 11 _ hno (BE.out _ hbz) ⟨_, _, _, _, _, _, rfl, hb.size, Blk.new wq [.int .u32 0, .int .u32 0, .int .u32 0, .string ⟨#[]⟩, .int .i64 0] 38⟩⟩
                  simp [upd]
                · cases ho
                  refine wpOp_step rfl (fun K hK => ?_)
                  go_simp
                  have hno : ∀ j, j < 17 → j ≠ 12 → listed.getD j false = true → Df j ≠ Df 12 := fun j hj hne hl => by
                    refine Df_ne12 ⟨j, hj⟩ hne ?_
                    intro e
                    have e : j = 14 := e
                    subst e
                    have := hcl 14 _ rfl hl ⟨12, .data⟩ (by simp) rfl
                    rw [Array.getD] at this hun
                    split at this
                    · rename_i h; rw [dif_pos h] at hun; rw [this] at hun; cases hun
                    · cases this
                  have hbz : Below wq.heap.size wq (wq.alloc (.cells #[.slice none 0 0] 27)) := (Below.refl _ _).alloc (Nat.le_refl _) _
                  refine hK _ _ ⟨upd u 21 (.pointer (some ⟨wq.heap.size, 0, none⟩)), ?_, BZ.out _ hbz, hF.step 12 _ hno (BE.out _ hbz) ⟨_, _, rfl, hb.size, Blk.new wq [.slice none 0 0] 27⟩⟩
                  simp [upd]
                · cases ho
                  obtain ⟨A11, p11, q11, r11, v11, z11, f11, m11, b11⟩ : ∃ A a b c d e, u 20 = .pointer (some ⟨A, 0, none⟩) ∧ w14.heap.size ≤ A ∧ Blk wq A [a, b, c, d, e] 38 := hF 11 (by decide) (hall ⟨11, .data⟩ (by simp) rfl)
                  have f7 : u 127 = .agg #[.int .u32 RL, .int .u32 RH, .int .u32 RO, .string t, .int .i64 RI] := hF 7 (by decide) (hall ⟨7, .data⟩ (by simp) rfl)
                  have c0 := b11.cell (i := 0) rfl
                  have g0 := b11.free 0
                  have c1 := b11.cell (i := 1) rfl
                  have g1 := b11.free 1
                  have c2 := b11.cell (i := 2) rfl
                  have g2 := b11.free 2
                  have c3 := b11.cell (i := 3) rfl
                  have g3 := b11.free 3
                  have c4 := b11.cell (i := 4) rfl
                  have g4 := b11.free 4
                  refine wpOp_step rfl (fun K hK => ?_)
                  simp only [f11, f7]
                  go_simp
                  refine hK _ _ ⟨u, ?_, ?_, hF.keep 13 (fun j x _ h => VG.st38 b11 _ _ h) ?_⟩
                  · simp [f11, f7]
                  · exact ((((hb.setCell (p := ⟨A11, 0, none⟩) m11 _).setCell (p := ⟨A11, 1, none⟩) m11 _).setCell (p := ⟨A11, 2, none⟩) m11 _).setCell (p := ⟨A11, 3, none⟩) m11 _).setCell (p := ⟨A11, 4, none⟩) m11 _
                  · exact ⟨A11, f11, m11, ((((b11.set 0 _).set 1 _).set 2 _).set 3 _).set 4 _⟩
                · cases ho
                  obtain ⟨A12, p12, f12, m12, b12⟩ : ∃ A a, u 21 = .pointer (some ⟨A, 0, none⟩) ∧ w14.heap.size ≤ A ∧ Blk wq A [a] 27 := hF 12 (by decide) (hall ⟨12, .data⟩ (by simp) rfl)
                  obtain ⟨y8, f8, o8⟩ : ∃ y, u 128 = .agg #[y] ∧ Own wq w14.heap.size 3 .i64 y RC := hF 8 (by decide) (hall ⟨8, .data⟩ (by simp) rfl)
                  obtain ⟨ya, yc, hy⟩ := o8.shape
                  subst hy
                  have c0 := b12.cell (i := 0) rfl
                  have g0 := b12.free 0
                  refine wpOp_step rfl (fun K hK => ?_)
                  simp only [f12, f8]
                  go_simp
                  refine hK _ _ ⟨u, ?_, ?_, hF.keep 14 (fun j x _ h => VG.st27 b12 o8 _ _ h) ?_⟩
                  · simp [f12, f8]
                  · exact hb.setCell (p := ⟨A12, 0, none⟩) m12 _
                  · exact ⟨A12, _, f12, m12, b12.set 0 _, o8.typed b12 (by decide) _⟩
                · cases ho
                  have f9 : u 129 = .int .i64 NN := hF 9 (by decide) (hall ⟨9, .data⟩ (by simp) rfl)
                  refine wpOp_step rfl (fun K hK => ?_)
                  simp only [f9]
                  go_simp
                  refine hK _ _ ⟨upd u 22 (.int .i64 NN), ?_, ST.out (by decide) (by decide) (by decide) (by decide) _ _ (Below.refl _ _) (rfl)⟩
                  simp [upd, f9]
                · cases ho
                  have f10 : u 130 = .bool RB := hF 10 (by decide) (hall ⟨10, .data⟩ (by simp) rfl)
                  refine wpOp_step rfl (fun K hK => ?_)
                  simp only [f10]
                  go_simp
                  refine hK _ _ ⟨upd u 23 (.bool RB), ?_, ST.out (by decide) (by decide) (by decide) (by decide) _ _ (Below.refl _ _) (rfl)⟩
                  simp [upd, f10]
            case rest =>
              obtain ⟨QA, QB, yh, rfl, rfl, rfl, rfl, hQA, hQB, hB1, hB2, hO, hb15⟩ := hcut
              generalize hwc : wc = w15 at *
              clear hwc
              have BS15 := hid (BS14.out.below hb15)
              have A15 := hid (A14.out.trans (hb15.mono A14.out.size))
              have W15 := hid (W14.out.below hb15)
              have G15 := hid (G14.out.below hb15)
              have H15 := hid hO
              obtain ⟨ha, hcp, rfl⟩ := hid_shape H15
              have q0a := hB1.cell (i := 0) rfl
              have q0b := hB1.cell (i := 1) rfl
              have q0c := hB1.cell (i := 2) rfl
              have q0d := hB1.cell (i := 3) rfl
              have q0e := hB1.cell (i := 4) rfl
              have Q15 := hid hB2
              clear hO hb15 hB1 hB2 hQA hQB BS14 A14 W14 G14
              have w0a_15 := (BS15.out.get (b := PA) (l := [.int .u32 RL, .int .u32 RH, .int .u32 RO, .string t, .int .i64 RI]) (t := 38) (by simp)).cell (i := 0) rfl
              have w0b_15 := (BS15.out.get (b := PA) (l := [.int .u32 RL, .int .u32 RH, .int .u32 RO, .string t, .int .i64 RI]) (t := 38) (by simp)).cell (i := 1) rfl
              have w0c_15 := (BS15.out.get (b := PA) (l := [.int .u32 RL, .int .u32 RH, .int .u32 RO, .string t, .int .i64 RI]) (t := 38) (by simp)).cell (i := 2) rfl
              have w0d_15 := (BS15.out.get (b := PA) (l := [.int .u32 RL, .int .u32 RH, .int .u32 RO, .string t, .int .i64 RI]) (t := 38) (by simp)).cell (i := 3) rfl
              have w0e_15 := (BS15.out.get (b := PA) (l := [.int .u32 RL, .int .u32 RH, .int .u32 RO, .string t, .int .i64 RI]) (t := 38) (by simp)).cell (i := 4) rfl
              go_wp2_with fail
              refine (HEC.out w15).mono ?_
              rintro e w16 ⟨rfl, hb16⟩
              have BS16 := hid (BS15.out.below hb16)
              have A16 := hid (A15.out.trans (hb16.mono A15.out.size))
              have W16 := hid (W15.out.below hb16)
              have G16 := hid (G15.out.below hb16)
              have H16 := hid (H15.out.below hb16)
              have w1a_16 := (BS16.out.get (b := PB) (l := [.slice wa RC.length wcp]) (t := 27) (by simp)).cell (i := 0) rfl
              have q1a := (Q15.out.below hb16 Q15.out.lt).cell (i := 0) rfl
              clear hb16 BS15 A15 W15 G15 H15 Q15 q0a q0b q0c q0d q0e w0a_15 w0b_15 w0c_15 w0d_15 w0e_15
              go_wp2_with fail
              refine (HEM.out _ _ w16 H16.out.vw W16.out.vw).mono ?_
              rintro e w17 ⟨rfl, hb17⟩
              have BS17 := hid (BS16.out.below hb17)
              have A17 := hid (A16.out.trans (hb17.mono A16.out.size))
              have G17 := hid (G16.out.below hb17)
              have g1a_17 := (BS17.out.get (b := GB) (l := [.slice ga RC.length gcp]) (t := 27) (by simp)).cell (i := 0) rfl
              clear hb17 BS16 A16 W16 G16 H16 w1a_16 q1a
              go_wp2_with fail
              refine (HHR.out _ w17 G17.out.vw).mono ?_
              rintro e w18 ⟨rfl, hb18⟩
              have A18 := hid (A17.out.trans (hb18.mono A17.out.size))
              clear hb18
              go_wp2_with fail
              go_ret
              exact ⟨rfl, A18.out⟩
    · have HSM : Hid (∀ q, Calls Try.prog 17 #[.agg #[.slice ao ch.length cap], .int .i64 (1048576 - t.size)] q fun e w' => e = .returned (.int .i64 (-1)) ∧ Below q.heap.size q w') := fun q => by
        have := sz_model ao ch.length cap (1048576 - t.size) q (by omega) (by omega) hlen
        rw [show lft (1048576 - t.size) ch.length = -1 by unfold lft; rw [if_pos (by omega)]] at this
        exact this
      have t1 : ¬ (1048576 : Int) - t.size < 0 := by omega
      unfold rV at *
      go_enter Try.func5, Try.ntmps5
      go_wp2_with fail
      refine (HSC.out _).mono ?_
      generalize (w.alloc (.cells #[.int .u32 lo, .int .u32 hi, .int .u32 co, .string t, .int .i64 i] 54)).alloc (.cells #[.slice ao ch.length cap] 45) = w0 at *
      rintro e w1 ⟨rfl, hb1⟩
      have BS1 := hid (BS0.out.below hb1)
      have A1 := hid (N3.out.trans (hb1.mono N3.out.size))
      have m1 := (BS1.out.get (b := w.heap.size + 1) (l := [.slice ao ch.length cap]) (t := 45) (by simp)).cell (i := 0) rfl
      clear hb1 BS0 N3
      go_wp2_with fail
      refine (HSM.out _).mono ?_
      rintro e w2 ⟨rfl, hb2⟩
      have A2 := hid (A1.out.trans (hb2.mono A1.out.size))
      clear hb2
      go_wp2_with fail
      go_ret
      exact ⟨rfl, A2.out⟩
  · have HSC := hid (fun q => sz_reader_big lo hi co t i q (by omega) hm)
    unfold rV at *
    go_enter Try.func5, Try.ntmps5
    go_wp2_with fail
    refine (HSC.out _).mono ?_
    generalize (w.alloc (.cells #[.int .u32 lo, .int .u32 hi, .int .u32 co, .string t, .int .i64 i] 54)).alloc (.cells #[.slice ao ch.length cap] 45) = w0 at *
    rintro e w1 ⟨rfl, hb1⟩
    have A1 := hid (N3.out.trans (hb1.mono N3.out.size))
    clear hb1
    go_wp2_with fail
    go_ret
    exact ⟨rfl, A1.out⟩
end Go.Proofs.Ytimafabbepgifaa
