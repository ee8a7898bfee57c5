/- The law of ModelPut. -/
import Derived.Test.YtimafabbepgifaaSq
import Derived.Test.YtimafabbepgifaaRj
import Derived.Test.YtimafabbepgifaaPl
import Derived.Test.YtimafabbepgifaaMs
namespace Go.Proofs.Ytimafabbepgifaa
open Go.RowKit
set_option linter.unusedVariables false

theorem to_model_p (v : Value) (xs : List Int) (w : World) (hn : xs.length ≤ 1048576) (h : Vw w v xs) :
    Calls Try.prog 20 #[.agg #[v]] w fun e w' => ∃ v', e = .returned (.agg #[v']) ∧ Own w' w.heap.size 3 .i64 v' xs ∧ Below w.heap.size w w' := to_model v xs w hn h

theorem stepP_len (B : Nat) (st : PS) (T b : Int) : (stepP B st T b).ch.length = st.ch.length := by simp [stepP]
theorem putTo_len (B : Nat) (P : List Int) (st : PS) : ∀ k, (putTo B P st k).ch.length = st.ch.length
  | 0 => rfl
  | k + 1 => by rw [putTo, stepP_len, putTo_len B P st k]
theorem mpS_len (lo hi : Int) (s : ByteArray) (ch : List Int) (B x : Int) (hc : ch.length ≤ 1048576) : (mpS lo hi s ch B x).ch.length ≤ 1048576 := by
  unfold mpS
  split
  · rw [putTo_len]; exact hc
  · exact hc
theorem Own.kept {w w' : World} {base : Nat} {v u : Value} {xs : List Int} (ho : Own w base 3 .i64 u xs) (hk : ∀ b l t, Blk w b l t → (∀ (a : Addr) n c, v = .slice (some a) n c → a.block ≠ b) → Blk w' b l t) (hs : w.heap.size ≤ w'.heap.size) (hne : ∀ (a b : Addr) n c m d, v = .slice (some a) n c → u = .slice (some b) m d → a.block ≠ b.block) : Own w' base 3 .i64 u xs := by
  refine ⟨Nat.le_trans ho.1 hs, ho.2.1, ?_⟩
  rcases ho.2.2 with h0 | ⟨g, cap, cur, rfl, hg, hh, r⟩
  · exact .inl h0
  · refine .inr ⟨g, cap, cur, rfl, hg, ?_, r⟩
    have hB : Blk w g cur.toList 3 := by unfold Blk; simpa using hh
    have := hk g cur.toList 3 hB (fun a n c e => hne a ⟨g, 0, none⟩ n c _ _ e rfl)
    unfold Blk at this
    simpa using this
theorem Bs.marked {w w' : World} {base : Nat} {v : Value} {xs : List Int} {L : List (Nat × List Value × TypeId)} (h : Bs w L) (ho : Own w base 3 .i64 v xs) (hk : ∀ b l t, Blk w b l t → (∀ (a : Addr) n c, v = .slice (some a) n c → a.block ≠ b) → Blk w' b l t) (hL : ∀ x ∈ L, x.2.2 ≠ 3) : Bs w' L := by
  intro x hx
  refine hk _ _ _ (h x hx) (fun a n c e => ?_)
  rcases ho.2.2 with ⟨e2, _⟩ | ⟨g, cap, cur, e2, hg, hh, r⟩
  · rw [e] at e2; cases e2
  · rw [e] at e2
    simp only [Value.slice.injEq, Option.some.injEq] at e2
    obtain ⟨rfl, _, _⟩ := e2
    have hB : Blk w g cur.toList 3 := by unfold Blk; simpa using hh
    exact hB.apart (h x hx) (fun e => hL x hx e.symm)
theorem hid_shape {w : World} {base : Nat} {e : TypeId} {k : IntKind} {v : Value} {xs : List Int} (h : Hid (Own w base e k v xs)) : ∃ ao cap, v = .slice ao xs.length cap := h.out.shape

def Kb : Nat → Nat := fun j => #[0, 1, 16, 4, 5, 6, 7, 8, 9, 10, 11, 12, 13, 14, 15].getD j 99
def Db : Nat → Nat := fun j => #[47, 48, 49, 50, 51, 52, 46, 53, 54, 55, 14, 15, 14, 15, 16].getD j 999
theorem Db_ne : ∀ i j : Fin 15, j ≠ i → i.val ≠ 10 → i.val ≠ 11 → i.val ≠ 12 → i.val ≠ 13 → Db j ≠ Db i := by decide
theorem Db_ne11 : ∀ j : Fin 15, j.val ≠ 10 → j.val ≠ 12 → Db j ≠ Db 10 := by decide
theorem Db_ne12 : ∀ j : Fin 15, j.val ≠ 11 → j.val ≠ 13 → Db j ≠ Db 11 := by decide
def Kc : Nat → Nat := fun j => #[0, 1, 2, 3, 4, 5, 6, 7, 8, 9, 10, 11, 12, 13, 14, 15].getD j 99
def Dc : Nat → Nat := fun j => #[110, 111, 112, 113, 114, 115, 116, 109, 117, 118, 119, 20, 21, 20, 21, 22].getD j 999
theorem Dc_ne : ∀ i j : Fin 16, j ≠ i → i.val ≠ 11 → i.val ≠ 12 → i.val ≠ 13 → i.val ≠ 14 → Dc j ≠ Dc i := by decide
theorem Dc_ne11 : ∀ j : Fin 16, j.val ≠ 11 → j.val ≠ 13 → Dc j ≠ Dc 11 := by decide
theorem Dc_ne12 : ∀ j : Fin 16, j.val ≠ 12 → j.val ≠ 14 → Dc j ≠ Dc 12 := by decide
def Ka : Nat → Nat := fun j => #[0, 1, 2, 3, 4, 5, 6, 7, 8, 9, 10, 11, 12, 13, 14, 15].getD j 99
def Da : Nat → Nat := fun j => #[34, 35, 36, 37, 38, 39, 40, 33, 41, 42, 43, 10, 11, 10, 11, 12].getD j 999
theorem Da_ne : ∀ i j : Fin 16, j ≠ i → i.val ≠ 11 → i.val ≠ 12 → i.val ≠ 13 → i.val ≠ 14 → Da j ≠ Da i := by decide
theorem Da_ne11 : ∀ j : Fin 16, j.val ≠ 11 → j.val ≠ 13 → Da j ≠ Da 11 := by decide
theorem Da_ne12 : ∀ j : Fin 16, j.val ≠ 12 → j.val ≠ 14 → Da j ≠ Da 12 := by decide

set_option maxRecDepth 100000 in
set_option maxHeartbeats 3200000 in
theorem law_mput (lo hi : Int) (s : ByteArray) (ao : Option Addr) (n cap : Nat) (z0 : List Int) (B x : Int) (w : World) (hl : W32 lo) (hh : W32 hi) (hm : s.size ≤ 9223372036854775807) (hr0 : IsRow .i64 w ao n cap z0) (hx0 : -9223372036854775808 ≤ x) (hx1 : x ≤ 9223372036854775807) :
    Calls Try.prog 4 #[cV lo hi s, .agg #[.slice ao n cap], .int .i64 B, .int .i64 x] w fun e w' => e = .returned (.bool true) ∧ Below w.heap.size w w' := by
  have hv := hr0.view
  have hlen := hr0.len.1
  have hcap : n ≤ cap := by
    rcases hr0 with ⟨_, rfl, rfl, _⟩ | ⟨x, _, h, _⟩
    · exact Nat.le_refl _
    · exact h
  have e0 := hv.1
  generalize z0.take n = ch at *
  clear hr0
  subst e0
  have HV := hid (show Vw w (.slice ao ch.length cap) ch from ⟨ao, cap, rfl, hv, hcap⟩)
  clear hv hcap
  obtain ⟨n1, n2, n3⟩ := new_two w [.int .u32 lo, .int .u32 hi, .string s] [.slice ao ch.length cap] 44 45
  have N3 := hid n3
  have BS0 : Hid (Bs ((w.alloc (.cells #[.int .u32 lo, .int .u32 hi, .string s] 44)).alloc (.cells #[.slice ao ch.length cap] 45)) [(w.heap.size, [.int .u32 lo, .int .u32 hi, .string s], 44), (w.heap.size + 1, [.slice ao ch.length cap], 45)]) := by
    intro y hy
    simp only [List.mem_cons, List.not_mem_nil, or_false] at hy
    rcases hy with rfl | rfl
    · exact n1
    · exact n2
  clear n1 n2 n3
  by_cases hb0 : s.size ≤ 1048576
  · have HSC := hid (fun q => sz_coder lo hi s q hb0)
    by_cases hb1 : (ch.length : Int) ≤ 1048576 - s.size
    · have hc20 : ch.length ≤ 1048576 := by omega
      have HSM : Hid (∀ q, Calls Try.prog 17 #[.agg #[.slice ao ch.length cap], .int .i64 (1048576 - s.size)] q fun e w' => e = .returned (.int .i64 (1048576 - s.size - ch.length)) ∧ Below q.heap.size q w') := fun q => by
        have := sz_model ao ch.length cap (1048576 - s.size) q (by omega) (by omega) hlen
        rw [show lft (1048576 - s.size) ch.length = 1048576 - s.size - ch.length by unfold lft; rw [if_neg (by omega)]] at this
        exact this
      have HTC := hid (fun q => to_coder lo hi s q)
      have HEC := hid (fun q => eq_coder (mpS lo hi s ch B x).lo (mpS lo hi s ch B x).hi (s ++ strOfNums (mpS lo hi s ch B x).o) q)
      have HEM := hid (fun v u q h1 h2 => eq_model v u (mpS lo hi s ch B x).ch q (mpS_len lo hi s ch B x hc20) h1 h2)
      have HEX := hid (fun v u q h1 h2 => eq_model v u ch q hc20 h1 h2)
      have HMX := hid (fun B v q h0 ho => mark_model B v ch q (by omega) h0 ho)
      have HMR := hid (fun D v q h0 ho => mark_model D v (mpS lo hi s ch B x).ch q (by have := mpS_len lo hi s ch B x hc20; omega) h0 ho)
      have HHR := hid (fun v q h => held_model v (mpS lo hi s ch B x).ch.length q (by have := mpS_len lo hi s ch B x hc20; omega) h)
      have HTM := hid (fun q (hq : Below w.heap.size w q) => to_model_p (.slice ao ch.length cap) ch q hc20 (HV.out.below (Nat.le_refl _) hq))
      have HSP := hid (fun v q hv => spec_mput lo hi s v ch B x q hl hh hx0 hx1 hc20 hb0 hv)
      have HIP := hid (fun v q hv => impl_mput lo hi s v ch B x q hl hh hx0 hx1 hc20 hb0 hv)
      unfold mpV at HSP HIP
      generalize (mpS lo hi s ch B x).lo = RL at *
      generalize (mpS lo hi s ch B x).hi = RH at *
      generalize s ++ strOfNums (mpS lo hi s ch B x).o = RS at *
      generalize (mpS lo hi s ch B x).ch = RC at *
      generalize okMP s ch B x = RB at *
      have t1 : ¬ (1048576 : Int) - s.size < 0 := by omega
      have t2 : ¬ (1048576 : Int) - s.size - ch.length < 0 := by omega
      unfold cV at *
      go_enter Try.func4, Try.ntmps4
      go_wp2_with fail
      refine (HSC.out _).mono ?_
      generalize (w.alloc (.cells #[.int .u32 lo, .int .u32 hi, .string s] 44)).alloc (.cells #[.slice ao ch.length cap] 45) = w0 at *
      rintro e w1 ⟨rfl, hb1⟩
      have BS1 := hid (BS0.out.below hb1)
      have A1 := hid (N3.out.trans (hb1.mono N3.out.size))
      have m1 := (BS1.out.get (b := w.heap.size + 1) (l := [.slice ao ch.length cap]) (t := 45) (by simp)).cell (i := 0) rfl
      clear hb1 BS0 N3
      go_wp2_with fail
      refine (HSM.out _).mono ?_
      rintro e w2 ⟨rfl, hb2⟩
      have BS2 := hid (BS1.out.below hb2)
      have A2 := hid (A1.out.trans (hb2.mono A1.out.size))
      clear hb2 BS1 A1 m1
      go_wp2_with fail
      go_cut [10, 11, 12] from 33 to 44 (fun p q r wx => ∃ A1 A2 y, p = .pointer (some ⟨A1, 0, none⟩) ∧ q = .pointer (some ⟨A2, 0, none⟩) ∧ r = .bool RB ∧ w2.heap.size ≤ A1 ∧ w2.heap.size ≤ A2 ∧ Blk wx A1 [.int .u32 RL, .int .u32 RH, .string RS] 32 ∧ Blk wx A2 [y] 27 ∧ Own wx w2.heap.size 3 .i64 y RC ∧ Below w2.heap.size w2 wx)
      case first =>
        refine wp_region_any (by kernel_rfl) ?_
        refine wpAny_inv (fun listed a wq => ∃ u : Nat → Value, a = { tmps := #[.agg #[.int .u32 lo, .int .u32 hi, .string s], .agg #[.slice ao ch.length cap], .int .i64 B, .int .i64 x, .pointer (some ⟨w.heap.size, 0, none⟩), .pointer (some ⟨w.heap.size + 1, 0, none⟩), undef, undef, .bool false, .int .i64 (1048576 - s.size - ch.length), u 10, u 11, u 12, undef, undef, undef, undef, undef, undef, undef, undef, undef, undef, .agg #[.int .u32 lo, .int .u32 hi, .string s], .int .i64 1048576, .int .i64 (1048576 - s.size), .int .i64 (1048576 - s.size), .bool (decide ((1048576 : Int) - s.size < 0)), .agg #[.slice ao ch.length cap], .int .i64 (1048576 - s.size), .int .i64 (1048576 - s.size - ch.length), .int .i64 (1048576 - s.size - ch.length), .bool (decide ((1048576 : Int) - s.size - ch.length < 0)), u 33, u 34, u 35, u 36, u 37, u 38, u 39, u 40, u 41, u 42, u 43, undef, undef, undef, undef, undef, undef, undef, undef, undef, undef, undef, undef, undef, undef, undef, undef, undef, undef, undef, undef, undef, undef, undef, undef, undef, undef, undef, undef, undef, undef, undef, undef, undef, undef, undef, undef, undef, undef, undef, undef, undef, undef, undef, undef, undef, undef, undef, undef, undef, undef, undef, undef, undef, undef, undef, undef, undef, undef, undef, undef, undef, undef, undef, undef, undef, undef, undef, undef, undef, undef, undef, undef, undef, undef, undef, undef, undef, undef, undef, undef, undef, undef, undef, undef, undef, undef, undef, undef, undef, undef, undef, undef, undef, undef, undef, undef, undef, undef, undef], defers := [] } ∧ Below w2.heap.size w2 wq ∧ Facts 16 (fun j => VM lo hi s (.agg #[.slice ao ch.length cap]) (.bool false) B x RL RH RS RB ch RC w2.heap.size (Ka j)) Da listed u wq) ?hpre ?hstep ?hend _ _ _ _ rfl (by decide) (fun j oj _ hl => absurd hl (by simp [Array.getD])) ⟨fun k => undef, rfl, (Below.refl _ _).drew, fun j hj hl => absurd hl (by simp [Array.getD])⟩
        case hpre => exact pre_of (by kernel_rfl)
        case hend =>
          rintro listed a wq hall ⟨u, rfl, hb, hF⟩
          obtain ⟨A1, e1, m1, b1⟩ : ∃ A1, u 10 = .pointer (some ⟨A1, 0, none⟩) ∧ w2.heap.size ≤ A1 ∧ Blk wq A1 [.int .u32 RL, .int .u32 RH, .string RS] 32 := hF 13 (by decide) (hall 13 (by decide))
          obtain ⟨A2, y, e2, m2, b2, o2⟩ : ∃ A2 y, u 11 = .pointer (some ⟨A2, 0, none⟩) ∧ w2.heap.size ≤ A2 ∧ Blk wq A2 [y] 27 ∧ Own wq w2.heap.size 3 .i64 y RC := hF 14 (by decide) (hall 14 (by decide))
          have e3 : u 12 = .bool RB := hF 15 (by decide) (hall 15 (by decide))
          go_wp2_with fail
          go_meet
          exact ⟨A1, A2, y, e1, e2, e3, m1, m2, b1, b2, o2, hb⟩
        case hstep =>
          rintro listed a wq i o hsz ⟨u, rfl, hb, hF⟩ ho hall hun hcl
          have hin : i < 16 := (Array.getElem?_eq_some_iff.1 ho).1
          have BQ := BS2.out.below hb
          have c20 := (BQ.get (b := w.heap.size) (l := [.int .u32 lo, .int .u32 hi, .string s]) (t := 44) (by simp)).cell (i := 0) rfl
          have c21 := (BQ.get (b := w.heap.size) (l := [.int .u32 lo, .int .u32 hi, .string s]) (t := 44) (by simp)).cell (i := 1) rfl
          have c22 := (BQ.get (b := w.heap.size) (l := [.int .u32 lo, .int .u32 hi, .string s]) (t := 44) (by simp)).cell (i := 2) rfl
          have m2 := (BQ.get (b := w.heap.size + 1) (l := [.slice ao ch.length cap]) (t := 45) (by simp)).cell (i := 0) rfl
          have BE : Hid (∀ (wz : World), Below wq.heap.size wq wz → ∀ j (z : Value), j < 16 → (fun j => VM lo hi s (.agg #[.slice ao ch.length cap]) (.bool false) B x RL RH RS RB ch RC w2.heap.size (Ka j)) j z wq → (fun j => VM lo hi s (.agg #[.slice ao ch.length cap]) (.bool false) B x RL RH RS RB ch RC w2.heap.size (Ka j)) j z wz) := fun wz hbz j z _ h => VM.below hbz _ _ h
          have BZ : Hid (∀ (wz : World), Below wq.heap.size wq wz → Below w2.heap.size w2 wz) := fun wz hbz => hb.trans (hbz.mono hb.size)
          have ST : Hid (i ≠ 11 → i ≠ 12 → i ≠ 13 → i ≠ 14 → ∀ (wz : World) (v : Value), Below wq.heap.size wq wz → (fun j => VM lo hi s (.agg #[.slice ao ch.length cap]) (.bool false) B x RL RH RS RB ch RC w2.heap.size (Ka j)) i v wz → Below w2.heap.size w2 wz ∧ Facts 16 (fun j => VM lo hi s (.agg #[.slice ao ch.length cap]) (.bool false) B x RL RH RS RB ch RC w2.heap.size (Ka j)) Da (listed.setIfInBounds i true) (upd u (Da i) v) wz) := fun h1 h2 h3 h4 wz v hbz hv => ⟨BZ.out wz hbz, hF.step i v (fun j hj hne _ => Da_ne ⟨i, hin⟩ ⟨j, hj⟩ (fun e => hne (congrArg Fin.val e)) h1 h2 h3 h4) (BE.out wz hbz) hv⟩
          obtain rfl | rfl | rfl | rfl | rfl | rfl | rfl | rfl | rfl | rfl | rfl | rfl | rfl | rfl | rfl | rfl : i = 0 ∨ i = 1 ∨ i = 2 ∨ i = 3 ∨ i = 4 ∨ i = 5 ∨ i = 6 ∨ i = 7 ∨ i = 8 ∨ i = 9 ∨ i = 10 ∨ i = 11 ∨ i = 12 ∨ i = 13 ∨ i = 14 ∨ i = 15 := by omega
          · cases ho
            refine wpOp_step rfl (fun K hK => ?_)
            go_simp
            refine hK _ _ ⟨upd u 34 (.agg #[.int .u32 lo, .int .u32 hi, .string s]), ?_, ST.out (by decide) (by decide) (by decide) (by decide) _ _ (Below.refl _ _) (rfl)⟩
            simp [upd]
          · cases ho
            have f0 : u 34 = .agg #[.int .u32 lo, .int .u32 hi, .string s] := hF 0 (by decide) (hall ⟨0, .data⟩ (by simp) rfl)
            refine wpOp_step rfl (fun K hK => ?_)
            simp only [f0]
            go_simp
            go_wp2_with (go_at_call 19; refine (HTC.out wq).mono ?_; rintro e wz ⟨rfl, hbz⟩)
            first | refine hK _ _ ⟨upd u 35 (.agg #[.int .u32 lo, .int .u32 hi, .string s]), ?_, ST.out (by decide) (by decide) (by decide) (by decide) _ _ hbz rfl⟩ | refine ⟨upd u 35 (.agg #[.int .u32 lo, .int .u32 hi, .string s]), ?_, ST.out (by decide) (by decide) (by decide) (by decide) _ _ hbz rfl⟩
            simp [upd, f0]
          · cases ho
            refine wpOp_step rfl (fun K hK => ?_)
            go_simp
            refine hK _ _ ⟨upd u 36 (.agg #[.slice ao ch.length cap]), ?_, ST.out (by decide) (by decide) (by decide) (by decide) _ _ (Below.refl _ _) (rfl)⟩
            simp [upd]
          · cases ho
            have f2 : u 36 = .agg #[.slice ao ch.length cap] := hF 2 (by decide) (hall ⟨2, .data⟩ (by simp) rfl)
            refine wpOp_step rfl (fun K hK => ?_)
            simp only [f2]
            go_simp
            go_wp2_with (go_at_call 20; refine (HTM.out wq (A2.out.trans (hb.mono A2.out.size))).mono ?_; rintro e wz ⟨y, rfl, oy, hbz⟩)
            first | refine hK _ _ ⟨upd u 37 (.agg #[y]), ?_, ST.out (by decide) (by decide) (by decide) (by decide) _ _ hbz ⟨y, rfl, oy.lower hb.size⟩⟩ | refine ⟨upd u 37 (.agg #[y]), ?_, ST.out (by decide) (by decide) (by decide) (by decide) _ _ hbz ⟨y, rfl, oy.lower hb.size⟩⟩
            simp [upd, f2]
          · cases ho
            refine wpOp_step rfl (fun K hK => ?_)
            go_simp
            refine hK _ _ ⟨upd u 38 (.int .i64 B), ?_, ST.out (by decide) (by decide) (by decide) (by decide) _ _ (Below.refl _ _) (rfl)⟩
            simp [upd]
          · cases ho
            refine wpOp_step rfl (fun K hK => ?_)
            go_simp
            refine hK _ _ ⟨upd u 39 (.int .i64 x), ?_, ST.out (by decide) (by decide) (by decide) (by decide) _ _ (Below.refl _ _) (rfl)⟩
            simp [upd]
          · cases ho
            have f1 : u 35 = .agg #[.int .u32 lo, .int .u32 hi, .string s] := hF 1 (by decide) (hall ⟨1, .data⟩ (by simp) rfl)
            obtain ⟨y3, f3, o3⟩ : ∃ y, u 37 = .agg #[y] ∧ Own wq w2.heap.size 3 .i64 y ch := hF 3 (by decide) (hall ⟨3, .data⟩ (by simp) rfl)
            have f4 : u 38 = .int .i64 B := hF 4 (by decide) (hall ⟨4, .data⟩ (by simp) rfl)
            have f5 : u 39 = .int .i64 x := hF 5 (by decide) (hall ⟨5, .data⟩ (by simp) rfl)
            refine wpOp_step rfl (fun K hK => ?_)
            simp only [f1, f3, f4, f5]
            go_simp
            go_wp2_with (go_at_call 18; refine (HSP.out y3 wq o3.vp).mono ?_; rintro e wz ⟨y, rfl, oy, hbz⟩)
            first | refine hK _ _ ⟨upd u 40 (.tuple #[.agg #[.int .u32 RL, .int .u32 RH, .string RS], .agg #[y], .bool RB]), ?_, ST.out (by decide) (by decide) (by decide) (by decide) _ _ hbz ⟨y, rfl, oy.lower hb.size⟩⟩ | refine ⟨upd u 40 (.tuple #[.agg #[.int .u32 RL, .int .u32 RH, .string RS], .agg #[y], .bool RB]), ?_, ST.out (by decide) (by decide) (by decide) (by decide) _ _ hbz ⟨y, rfl, oy.lower hb.size⟩⟩
            simp [upd, f1, f3, f4, f5]
          · cases ho
            obtain ⟨y6, f6, o6⟩ : ∃ y, u 40 = .tuple #[.agg #[.int .u32 RL, .int .u32 RH, .string RS], .agg #[y], .bool RB] ∧ Own wq w2.heap.size 3 .i64 y RC := hF 6 (by decide) (hall ⟨6, .data⟩ (by simp) rfl)
            refine wpOp_step rfl (fun K hK => ?_)
            simp only [f6]
            go_simp
            refine hK _ _ ⟨upd u 33 (.tuple #[.agg #[.int .u32 RL, .int .u32 RH, .string RS], .agg #[y6], .bool RB]), ?_, ST.out (by decide) (by decide) (by decide) (by decide) _ _ (Below.refl _ _) ⟨y6, rfl, o6⟩⟩
            simp [upd, f6]
          · cases ho
            obtain ⟨y7, f7, o7⟩ : ∃ y, u 33 = .tuple #[.agg #[.int .u32 RL, .int .u32 RH, .string RS], .agg #[y], .bool RB] ∧ Own wq w2.heap.size 3 .i64 y RC := hF 7 (by decide) (hall ⟨7, .data⟩ (by simp) rfl)
            refine wpOp_step rfl (fun K hK => ?_)
            simp only [f7]
            go_simp
            refine hK _ _ ⟨upd u 41 (.agg #[.int .u32 RL, .int .u32 RH, .string RS]), ?_, ST.out (by decide) (by decide) (by decide) (by decide) _ _ (Below.refl _ _) (rfl)⟩
            simp [upd, f7]
          · cases ho
            obtain ⟨y7, f7, o7⟩ : ∃ y, u 33 = .tuple #[.agg #[.int .u32 RL, .int .u32 RH, .string RS], .agg #[y], .bool RB] ∧ Own wq w2.heap.size 3 .i64 y RC := hF 7 (by decide) (hall ⟨7, .data⟩ (by simp) rfl)
            refine wpOp_step rfl (fun K hK => ?_)
            simp only [f7]
            go_simp
            refine hK _ _ ⟨upd u 42 (.agg #[y7]), ?_, ST.out (by decide) (by decide) (by decide) (by decide) _ _ (Below.refl _ _) ⟨y7, rfl, o7⟩⟩
            simp [upd, f7]
          · cases ho
            obtain ⟨y7, f7, o7⟩ : ∃ y, u 33 = .tuple #[.agg #[.int .u32 RL, .int .u32 RH, .string RS], .agg #[y], .bool RB] ∧ Own wq w2.heap.size 3 .i64 y RC := hF 7 (by decide) (hall ⟨7, .data⟩ (by simp) rfl)
            refine wpOp_step rfl (fun K hK => ?_)
            simp only [f7]
            go_simp
            refine hK _ _ ⟨upd u 43 (.bool RB), ?_, ST.out (by decide) (by decide) (by decide) (by decide) _ _ (Below.refl _ _) (rfl)⟩
            simp [upd, f7]
          · cases ho
            refine wpOp_step rfl (fun K hK => ?_)
            go_simp
            have hno : ∀ j, j < 16 → j ≠ 11 → listed.getD j false = true → Da j ≠ Da 11 := fun j hj hne hl => by
              refine Da_ne11 ⟨j, hj⟩ hne ?_
              intro e
              have e : j = 13 := e
              subst e
              have := hcl 13 _ rfl hl ⟨11, .data⟩ (by simp) rfl
              rw [Array.getD] at this hun
              split at this
              · rename_i h; rw [dif_pos h] at hun; rw [this] at hun; cases hun
              · cases this
            have hbz : Below wq.heap.size wq (wq.alloc (.cells #[.int .u32 0, .int .u32 0, .string ⟨#[]⟩] 32)) := (Below.refl _ _).alloc (Nat.le_refl _) _
            refine hK _ _ ⟨upd u 10 (.pointer (some ⟨wq.heap.size, 0, none⟩)), ?_, BZ.out _ hbz, hF.step 11 _ hno (BE.out _ hbz) ⟨_, _, _, _, rfl, hb.size, Blk.new wq [.int .u32 0, .int .u32 0, .string ⟨#[]⟩] 32⟩⟩
            simp [upd]
          · cases ho
            refine wpOp_step rfl (fun K hK => ?_)
            go_simp
            have hno : ∀ j, j < 16 → j ≠ 12 → listed.getD j false = true → Da j ≠ Da 12 := fun j hj hne hl => by
              refine Da_ne12 ⟨j, hj⟩ hne ?_
              intro e
              have e : j = 14 := e
              subst e
              have := hcl 14 _ rfl hl ⟨12, .data⟩ (by simp) rfl
              rw [Array.getD] at this hun
              split at this
              · rename_i h; rw [dif_pos h] at hun; rw [this] at hun; cases hun
              · cases this
            have hbz : Below wq.heap.size wq (wq.alloc (.cells #[.slice none 0 0] 27)) := (Below.refl _ _).alloc (Nat.le_refl _) _
            refine hK _ _ ⟨upd u 11 (.pointer (some ⟨wq.heap.size, 0, none⟩)), ?_, BZ.out _ hbz, hF.step 12 _ hno (BE.out _ hbz) ⟨_, _, rfl, hb.size, Blk.new wq [.slice none 0 0] 27⟩⟩
            simp [upd]
          · cases ho
            obtain ⟨A11, p11, q11, r11, f11, m11, b11⟩ : ∃ A a b c, u 10 = .pointer (some ⟨A, 0, none⟩) ∧ w2.heap.size ≤ A ∧ Blk wq A [a, b, c] 32 := hF 11 (by decide) (hall ⟨11, .data⟩ (by simp) rfl)
            have f8 : u 41 = .agg #[.int .u32 RL, .int .u32 RH, .string RS] := hF 8 (by decide) (hall ⟨8, .data⟩ (by simp) rfl)
            have c0 := b11.cell (i := 0) rfl
            have c1 := b11.cell (i := 1) rfl
            have c2 := b11.cell (i := 2) rfl
            have g0 := b11.free 0
            have g1 := b11.free 1
            have g2 := b11.free 2
            refine wpOp_step rfl (fun K hK => ?_)
            simp only [f11, f8]
            go_simp
            refine hK _ _ ⟨u, ?_, ?_, hF.keep 13 (fun j x _ h => VM.st32 b11 _ _ h) ?_⟩
            · simp [f11, f8]
            · exact ((hb.setCell (p := ⟨A11, 0, none⟩) m11 _).setCell (p := ⟨A11, 1, none⟩) m11 _).setCell (p := ⟨A11, 2, none⟩) m11 _
            · exact ⟨A11, f11, m11, ((b11.set 0 _).set 1 _).set 2 _⟩
          · cases ho
            obtain ⟨A12, p12, f12, m12, b12⟩ : ∃ A a, u 11 = .pointer (some ⟨A, 0, none⟩) ∧ w2.heap.size ≤ A ∧ Blk wq A [a] 27 := hF 12 (by decide) (hall ⟨12, .data⟩ (by simp) rfl)
            obtain ⟨y9, f9, o9⟩ : ∃ y, u 42 = .agg #[y] ∧ Own wq w2.heap.size 3 .i64 y RC := hF 9 (by decide) (hall ⟨9, .data⟩ (by simp) rfl)
            obtain ⟨ya, yc, hy⟩ := o9.shape
            subst hy
            have c0 := b12.cell (i := 0) rfl
            have g0 := b12.free 0
            refine wpOp_step rfl (fun K hK => ?_)
            simp only [f12, f9]
            go_simp
            refine hK _ _ ⟨u, ?_, ?_, hF.keep 14 (fun j x _ h => VM.st27 b12 o9 _ _ h) ?_⟩
            · simp [f12, f9]
            · exact hb.setCell (p := ⟨A12, 0, none⟩) m12 _
            · exact ⟨A12, _, f12, m12, b12.set 0 _, o9.typed b12 (by decide) _⟩
          · cases ho
            have f10 : u 43 = .bool RB := hF 10 (by decide) (hall ⟨10, .data⟩ (by simp) rfl)
            refine wpOp_step rfl (fun K hK => ?_)
            simp only [f10]
            go_simp
            refine hK _ _ ⟨upd u 12 (.bool RB), ?_, ST.out (by decide) (by decide) (by decide) (by decide) _ _ (Below.refl _ _) (rfl)⟩
            simp [upd, f10]
      case rest =>
        obtain ⟨PA, PB, yw, rfl, rfl, rfl, hPA, hPB, hB1, hB2, hO, hbx⟩ := hcut
        generalize hwc : wc = w3 at *
        clear hwc
        have BS3 : Hid (Bs w3 [(w.heap.size, [.int .u32 lo, .int .u32 hi, .string s], 44), (w.heap.size + 1, [.slice ao ch.length cap], 45), (PA, [.int .u32 RL, .int .u32 RH, .string RS], 32), (PB, [yw], 27)]) := by
          intro y hy
          simp only [List.mem_cons, List.not_mem_nil, or_false] at hy
          rcases hy with rfl | rfl | rfl | rfl
          · exact (BS2.out.below hbx).get (by simp)
          · exact (BS2.out.below hbx).get (by simp)
          · exact hB1
          · exact hB2
        have A3 := hid (A2.out.trans (hbx.mono A2.out.size))
        have HW3 := hid A3.out.size
        have W3 := hid hO
        have hgW : Hid (∀ (a : Addr) n c, yw = .slice (some a) n c → a.block < w3.heap.size) := fun a n c h => by
          have h5 := hO
          rw [h] at h5
          exact h5.ge.2
        have HPA := hid hPA
        have HPB := hid hPB
        have m3 := (BS3.out.get (b := w.heap.size + 1) (l := [.slice ao ch.length cap]) (t := 45) (by simp)).cell (i := 0) rfl
        clear hbx hB1 hB2 hO hPA hPB BS2
        go_wp2_with fail
        refine (HTM.out w3 A3.out).mono ?_
        rintro e w4 ⟨vx, rfl, hx4, hb4⟩
        obtain ⟨xa, xc, rfl⟩ := hx4.shape
        have NX := hid ((Below.refl w4.heap.size w4).alloc (Nat.le_refl _) (.cells #[.slice xa ch.length xc] 27))
        have BX := hid (hb4.trans (NX.out.mono hb4.size))
        have A4 := hid (A3.out.trans (BX.out.mono A3.out.size))
        have X4 := hid (hx4.alloc (.cells #[.slice xa ch.length xc] 27))
        have BS4 : Hid (Bs (w4.alloc (.cells #[.slice xa ch.length xc] 27)) [(w.heap.size, [.int .u32 lo, .int .u32 hi, .string s], 44), (w.heap.size + 1, [.slice ao ch.length cap], 45), (PA, [.int .u32 RL, .int .u32 RH, .string RS], 32), (PB, [yw], 27), (w4.heap.size, [.slice xa ch.length xc], 27)]) := by
          intro y hy
          simp only [List.mem_cons, List.not_mem_nil, or_false] at hy
          rcases hy with rfl | rfl | rfl | rfl | rfl
          · exact (BS3.out.below BX.out).get (by simp)
          · exact (BS3.out.below BX.out).get (by simp)
          · exact (BS3.out.below BX.out).get (by simp)
          · exact (BS3.out.below BX.out).get (by simp)
          · exact Blk.new w4 [.slice xa ch.length xc] 27
        have W4 := hid (W3.out.below BX.out)
        have HX3 := hid hb4.size
        clear hx4 hb4 m3 NX BX
        go_wp2_with fail
        generalize hw5 : w4.alloc (.cells #[.slice xa ch.length xc] 27) = w5 at *
        generalize hXB : w4.heap.size = XB at *
        have A5 := hid A4.out
        have X5 := hid X4.out
        have BS5 := hid BS4.out
        have W5 := hid W4.out
        have HX5 := hid X4.out
        have HW5 := hid (show w3.heap.size ≤ w5.heap.size from X4.out.1)
        clear hw5 hXB A4 X4 BS4 W4
        go_cut [14, 15, 16] from 46 to 56 (fun p q r wx => ∃ A1 A2 y, p = .pointer (some ⟨A1, 0, none⟩) ∧ q = .pointer (some ⟨A2, 0, none⟩) ∧ r = .bool RB ∧ w5.heap.size ≤ A1 ∧ w5.heap.size ≤ A2 ∧ Blk wx A1 [.int .u32 RL, .int .u32 RH, .string RS] 32 ∧ Blk wx A2 [y] 27 ∧ Own wx w5.heap.size 3 .i64 y RC ∧ Below w5.heap.size w5 wx)
        case first =>
          refine wp_region_any (by kernel_rfl) ?_
          refine wpAny_inv (fun listed a wq => ∃ u : Nat → Value, a = { tmps := #[.agg #[.int .u32 lo, .int .u32 hi, .string s], .agg #[.slice ao ch.length cap], .int .i64 B, .int .i64 x, .pointer (some ⟨w.heap.size, 0, none⟩), .pointer (some ⟨w.heap.size + 1, 0, none⟩), undef, undef, .bool false, .int .i64 (1048576 - s.size - ch.length), .pointer (some ⟨PA, 0, none⟩), .pointer (some ⟨PB, 0, none⟩), .bool RB, .pointer (some ⟨XB, 0, none⟩), u 14, u 15, u 16, undef, undef, undef, undef, undef, undef, .agg #[.int .u32 lo, .int .u32 hi, .string s], .int .i64 1048576, .int .i64 (1048576 - s.size), .int .i64 (1048576 - s.size), .bool (decide ((1048576 : Int) - s.size < 0)), .agg #[.slice ao ch.length cap], .int .i64 (1048576 - s.size), .int .i64 (1048576 - s.size - ch.length), .int .i64 (1048576 - s.size - ch.length), .bool (decide ((1048576 : Int) - s.size - ch.length < 0)), u33, u34, u35, u36, u37, u38, u39, u40, u41, u42, u43, .agg #[.slice ao ch.length cap], .agg #[.slice xa ch.length xc], u 46, u 47, u 48, u 49, u 50, u 51, u 52, u 53, u 54, u 55, undef, undef, undef, undef, undef, undef, undef, undef, undef, undef, undef, undef, undef, undef, undef, undef, undef, undef, undef, undef, undef, undef, undef, undef, undef, undef, undef, undef, undef, undef, undef, undef, undef, undef, undef, undef, undef, undef, undef, undef, undef, undef, undef, undef, undef, undef, undef, undef, undef, undef, undef, undef, undef, undef, undef, undef, undef, undef, undef, undef, undef, undef, undef, undef, undef, undef, undef, undef, undef, undef, undef, undef, undef, undef, undef, undef, undef, undef, undef, undef, undef, undef, undef, undef, undef, undef, undef], defers := [] } ∧ Below w5.heap.size w5 wq ∧ Facts 15 (fun j => VM lo hi s (.agg #[.slice ao ch.length cap]) (.agg #[.slice xa ch.length xc]) B x RL RH RS RB ch RC w5.heap.size (Kb j)) Db listed u wq) ?hpre ?hstep ?hend _ _ _ _ rfl (by decide) (fun j oj _ hl => absurd hl (by simp [Array.getD])) ⟨fun k => undef, rfl, (Below.refl _ _).drew, fun j hj hl => absurd hl (by simp [Array.getD])⟩
          case hpre => exact pre_of (by kernel_rfl)
          case hend =>
            rintro listed a wq hall ⟨u, rfl, hb, hF⟩
            obtain ⟨A1, e1, m1, b1⟩ : ∃ A1, u 14 = .pointer (some ⟨A1, 0, none⟩) ∧ w5.heap.size ≤ A1 ∧ Blk wq A1 [.int .u32 RL, .int .u32 RH, .string RS] 32 := hF 12 (by decide) (hall 12 (by decide))
            obtain ⟨A2, y, e2, m2, b2, o2⟩ : ∃ A2 y, u 15 = .pointer (some ⟨A2, 0, none⟩) ∧ w5.heap.size ≤ A2 ∧ Blk wq A2 [y] 27 ∧ Own wq w5.heap.size 3 .i64 y RC := hF 13 (by decide) (hall 13 (by decide))
            have e3 : u 16 = .bool RB := hF 14 (by decide) (hall 14 (by decide))
            go_wp2_with fail
            go_meet
            exact ⟨A1, A2, y, e1, e2, e3, m1, m2, b1, b2, o2, hb⟩
          case hstep =>
            rintro listed a wq i o hsz ⟨u, rfl, hb, hF⟩ ho hall hun hcl
            have hin : i < 15 := (Array.getElem?_eq_some_iff.1 ho).1
            have BQ := BS5.out.below hb
            have c20 := (BQ.get (b := w.heap.size) (l := [.int .u32 lo, .int .u32 hi, .string s]) (t := 44) (by simp)).cell (i := 0) rfl
            have c21 := (BQ.get (b := w.heap.size) (l := [.int .u32 lo, .int .u32 hi, .string s]) (t := 44) (by simp)).cell (i := 1) rfl
            have c22 := (BQ.get (b := w.heap.size) (l := [.int .u32 lo, .int .u32 hi, .string s]) (t := 44) (by simp)).cell (i := 2) rfl
            have m2 := (BQ.get (b := w.heap.size + 1) (l := [.slice ao ch.length cap]) (t := 45) (by simp)).cell (i := 0) rfl
            have x2 := (BQ.get (b := XB) (l := [.slice xa ch.length xc]) (t := 27) (by simp)).cell (i := 0) rfl
            have BE : Hid (∀ (wz : World), Below wq.heap.size wq wz → ∀ j (z : Value), j < 15 → (fun j => VM lo hi s (.agg #[.slice ao ch.length cap]) (.agg #[.slice xa ch.length xc]) B x RL RH RS RB ch RC w5.heap.size (Kb j)) j z wq → (fun j => VM lo hi s (.agg #[.slice ao ch.length cap]) (.agg #[.slice xa ch.length xc]) B x RL RH RS RB ch RC w5.heap.size (Kb j)) j z wz) := fun wz hbz j z _ h => VM.below hbz _ _ h
            have BZ : Hid (∀ (wz : World), Below wq.heap.size wq wz → Below w5.heap.size w5 wz) := fun wz hbz => hb.trans (hbz.mono hb.size)
            have ST : Hid (i ≠ 10 → i ≠ 11 → i ≠ 12 → i ≠ 13 → ∀ (wz : World) (v : Value), Below wq.heap.size wq wz → (fun j => VM lo hi s (.agg #[.slice ao ch.length cap]) (.agg #[.slice xa ch.length xc]) B x RL RH RS RB ch RC w5.heap.size (Kb j)) i v wz → Below w5.heap.size w5 wz ∧ Facts 15 (fun j => VM lo hi s (.agg #[.slice ao ch.length cap]) (.agg #[.slice xa ch.length xc]) B x RL RH RS RB ch RC w5.heap.size (Kb j)) Db (listed.setIfInBounds i true) (upd u (Db i) v) wz) := fun h1 h2 h3 h4 wz v hbz hv => ⟨BZ.out wz hbz, hF.step i v (fun j hj hne _ => Db_ne ⟨i, hin⟩ ⟨j, hj⟩ (fun e => hne (congrArg Fin.val e)) h1 h2 h3 h4) (BE.out wz hbz) hv⟩
            obtain rfl | rfl | rfl | rfl | rfl | rfl | rfl | rfl | rfl | rfl | rfl | rfl | rfl | rfl | rfl : i = 0 ∨ i = 1 ∨ i = 2 ∨ i = 3 ∨ i = 4 ∨ i = 5 ∨ i = 6 ∨ i = 7 ∨ i = 8 ∨ i = 9 ∨ i = 10 ∨ i = 11 ∨ i = 12 ∨ i = 13 ∨ i = 14 := by omega
            · cases ho
              refine wpOp_step rfl (fun K hK => ?_)
              go_simp
              refine hK _ _ ⟨upd u 47 (.agg #[.int .u32 lo, .int .u32 hi, .string s]), ?_, ST.out (by decide) (by decide) (by decide) (by decide) _ _ (Below.refl _ _) (rfl)⟩
              simp [upd]
            · cases ho
              have f0 : u 47 = .agg #[.int .u32 lo, .int .u32 hi, .string s] := hF 0 (by decide) (hall ⟨0, .data⟩ (by simp) rfl)
              refine wpOp_step rfl (fun K hK => ?_)
              simp only [f0]
              go_simp
              go_wp2_with (go_at_call 19; refine (HTC.out wq).mono ?_; rintro e wz ⟨rfl, hbz⟩)
              first | refine hK _ _ ⟨upd u 48 (.agg #[.int .u32 lo, .int .u32 hi, .string s]), ?_, ST.out (by decide) (by decide) (by decide) (by decide) _ _ hbz rfl⟩ | refine ⟨upd u 48 (.agg #[.int .u32 lo, .int .u32 hi, .string s]), ?_, ST.out (by decide) (by decide) (by decide) (by decide) _ _ hbz rfl⟩
              simp [upd, f0]
            · cases ho
              refine wpOp_step rfl (fun K hK => ?_)
              go_simp
              refine hK _ _ ⟨upd u 49 ((.agg #[.slice xa ch.length xc])), ?_, ST.out (by decide) (by decide) (by decide) (by decide) _ _ (Below.refl _ _) (rfl)⟩
              simp [upd]
            · cases ho
              refine wpOp_step rfl (fun K hK => ?_)
              go_simp
              refine hK _ _ ⟨upd u 50 (.int .i64 B), ?_, ST.out (by decide) (by decide) (by decide) (by decide) _ _ (Below.refl _ _) (rfl)⟩
              simp [upd]
            · cases ho
              refine wpOp_step rfl (fun K hK => ?_)
              go_simp
              refine hK _ _ ⟨upd u 51 (.int .i64 x), ?_, ST.out (by decide) (by decide) (by decide) (by decide) _ _ (Below.refl _ _) (rfl)⟩
              simp [upd]
            · cases ho
              have f1 : u 48 = .agg #[.int .u32 lo, .int .u32 hi, .string s] := hF 1 (by decide) (hall ⟨1, .data⟩ (by simp) rfl)
              have f2 : u 49 = (.agg #[.slice xa ch.length xc]) := hF 2 (by decide) (hall ⟨2, .data⟩ (by simp) rfl)
              have f3 : u 50 = .int .i64 B := hF 3 (by decide) (hall ⟨3, .data⟩ (by simp) rfl)
              have f4 : u 51 = .int .i64 x := hF 4 (by decide) (hall ⟨4, .data⟩ (by simp) rfl)
              refine wpOp_step rfl (fun K hK => ?_)
              simp only [f1, f2, f3, f4]
              go_simp
              go_wp2_with (go_at_call 10; refine (HIP.out (.slice xa ch.length xc) wq (X5.out.below hb).vp).mono ?_; rintro e wz ⟨y, rfl, oy, hbz⟩)
              first | refine hK _ _ ⟨upd u 52 (.tuple #[.agg #[.int .u32 RL, .int .u32 RH, .string RS], .agg #[y], .bool RB]), ?_, ST.out (by decide) (by decide) (by decide) (by decide) _ _ hbz ⟨y, rfl, oy.lower hb.size⟩⟩ | refine ⟨upd u 52 (.tuple #[.agg #[.int .u32 RL, .int .u32 RH, .string RS], .agg #[y], .bool RB]), ?_, ST.out (by decide) (by decide) (by decide) (by decide) _ _ hbz ⟨y, rfl, oy.lower hb.size⟩⟩
              simp [upd, f1, f2, f3, f4]
            · cases ho
              obtain ⟨y5, f5, o5⟩ : ∃ y, u 52 = .tuple #[.agg #[.int .u32 RL, .int .u32 RH, .string RS], .agg #[y], .bool RB] ∧ Own wq w5.heap.size 3 .i64 y RC := hF 5 (by decide) (hall ⟨5, .data⟩ (by simp) rfl)
              refine wpOp_step rfl (fun K hK => ?_)
              simp only [f5]
              go_simp
              refine hK _ _ ⟨upd u 46 (.tuple #[.agg #[.int .u32 RL, .int .u32 RH, .string RS], .agg #[y5], .bool RB]), ?_, ST.out (by decide) (by decide) (by decide) (by decide) _ _ (Below.refl _ _) ⟨y5, rfl, o5⟩⟩
              simp [upd, f5]
            · cases ho
              obtain ⟨y6, f6, o6⟩ : ∃ y, u 46 = .tuple #[.agg #[.int .u32 RL, .int .u32 RH, .string RS], .agg #[y], .bool RB] ∧ Own wq w5.heap.size 3 .i64 y RC := hF 6 (by decide) (hall ⟨6, .data⟩ (by simp) rfl)
              refine wpOp_step rfl (fun K hK => ?_)
              simp only [f6]
              go_simp
              refine hK _ _ ⟨upd u 53 (.agg #[.int .u32 RL, .int .u32 RH, .string RS]), ?_, ST.out (by decide) (by decide) (by decide) (by decide) _ _ (Below.refl _ _) (rfl)⟩
              simp [upd, f6]
            · cases ho
              obtain ⟨y6, f6, o6⟩ : ∃ y, u 46 = .tuple #[.agg #[.int .u32 RL, .int .u32 RH, .string RS], .agg #[y], .bool RB] ∧ Own wq w5.heap.size 3 .i64 y RC := hF 6 (by decide) (hall ⟨6, .data⟩ (by simp) rfl)
              refine wpOp_step rfl (fun K hK => ?_)
              simp only [f6]
              go_simp
              refine hK _ _ ⟨upd u 54 (.agg #[y6]), ?_, ST.out (by decide) (by decide) (by decide) (by decide) _ _ (Below.refl _ _) ⟨y6, rfl, o6⟩⟩
              simp [upd, f6]
            · cases ho
              obtain ⟨y6, f6, o6⟩ : ∃ y, u 46 = .tuple #[.agg #[.int .u32 RL, .int .u32 RH, .string RS], .agg #[y], .bool RB] ∧ Own wq w5.heap.size 3 .i64 y RC := hF 6 (by decide) (hall ⟨6, .data⟩ (by simp) rfl)
              refine wpOp_step rfl (fun K hK => ?_)
              simp only [f6]
              go_simp
              refine hK _ _ ⟨upd u 55 (.bool RB), ?_, ST.out (by decide) (by decide) (by decide) (by decide) _ _ (Below.refl _ _) (rfl)⟩
              simp [upd, f6]
            · cases ho
              refine wpOp_step rfl (fun K hK => ?_)
              go_simp
              have hno : ∀ j, j < 15 → j ≠ 10 → listed.getD j false = true → Db j ≠ Db 10 := fun j hj hne hl => by
                refine Db_ne11 ⟨j, hj⟩ hne ?_
                intro e
                have e : j = 12 := e
                subst e
                have := hcl 12 _ rfl hl ⟨10, .data⟩ (by simp) rfl
                rw [Array.getD] at this hun
                split at this
                · rename_i h; rw [dif_pos h] at hun; rw [this] at hun; cases hun
                · cases this
              have hbz : Below wq.heap.size wq (wq.alloc (.cells #[.int .u32 0, .int .u32 0, .string ⟨#[]⟩] 32)) := (Below.refl _ _).alloc (Nat.le_refl _) _
              refine hK _ _ ⟨upd u 14 (.pointer (some ⟨wq.heap.size, 0, none⟩)), ?_, BZ.out _ hbz, hF.step 10 _ hno (BE.out _ hbz) ⟨_, _, _, _, rfl, hb.size, Blk.new wq [.int .u32 0, .int .u32 0, .string ⟨#[]⟩] 32⟩⟩
              simp [upd]
            · cases ho
              refine wpOp_step rfl (fun K hK => ?_)
              go_simp
              have hno : ∀ j, j < 15 → j ≠ 11 → listed.getD j false = true → Db j ≠ Db 11 := fun j hj hne hl => by
                refine Db_ne12 ⟨j, hj⟩ hne ?_
                intro e
                have e : j = 13 := e
                subst e
                have := hcl 13 _ rfl hl ⟨11, .data⟩ (by simp) rfl
                rw [Array.getD] at this hun
                split at this
                · rename_i h; rw [dif_pos h] at hun; rw [this] at hun; cases hun
                · cases this
              have hbz : Below wq.heap.size wq (wq.alloc (.cells #[.slice none 0 0] 27)) := (Below.refl _ _).alloc (Nat.le_refl _) _
              refine hK _ _ ⟨upd u 15 (.pointer (some ⟨wq.heap.size, 0, none⟩)), ?_, BZ.out _ hbz, hF.step 11 _ hno (BE.out _ hbz) ⟨_, _, rfl, hb.size, Blk.new wq [.slice none 0 0] 27⟩⟩
              simp [upd]
            · cases ho
              obtain ⟨A10, p10, q10, r10, f10, m10, b10⟩ : ∃ A a b c, u 14 = .pointer (some ⟨A, 0, none⟩) ∧ w5.heap.size ≤ A ∧ Blk wq A [a, b, c] 32 := hF 10 (by decide) (hall ⟨10, .data⟩ (by simp) rfl)
              have f7 : u 53 = .agg #[.int .u32 RL, .int .u32 RH, .string RS] := hF 7 (by decide) (hall ⟨7, .data⟩ (by simp) rfl)
              have c0 := b10.cell (i := 0) rfl
              have c1 := b10.cell (i := 1) rfl
              have c2 := b10.cell (i := 2) rfl
              have g0 := b10.free 0
              have g1 := b10.free 1
              have g2 := b10.free 2
              refine wpOp_step rfl (fun K hK => ?_)
              simp only [f10, f7]
              go_simp
              refine hK _ _ ⟨u, ?_, ?_, hF.keep 12 (fun j x _ h => VM.st32 b10 _ _ h) ?_⟩
              · simp [f10, f7]
              · exact ((hb.setCell (p := ⟨A10, 0, none⟩) m10 _).setCell (p := ⟨A10, 1, none⟩) m10 _).setCell (p := ⟨A10, 2, none⟩) m10 _
              · exact ⟨A10, f10, m10, ((b10.set 0 _).set 1 _).set 2 _⟩
            · cases ho
              obtain ⟨A11, p11, f11, m11, b11⟩ : ∃ A a, u 15 = .pointer (some ⟨A, 0, none⟩) ∧ w5.heap.size ≤ A ∧ Blk wq A [a] 27 := hF 11 (by decide) (hall ⟨11, .data⟩ (by simp) rfl)
              obtain ⟨y8, f8, o8⟩ : ∃ y, u 54 = .agg #[y] ∧ Own wq w5.heap.size 3 .i64 y RC := hF 8 (by decide) (hall ⟨8, .data⟩ (by simp) rfl)
              obtain ⟨ya, yc, hy⟩ := o8.shape
              subst hy
              have c0 := b11.cell (i := 0) rfl
              have g0 := b11.free 0
              refine wpOp_step rfl (fun K hK => ?_)
              simp only [f11, f8]
              go_simp
              refine hK _ _ ⟨u, ?_, ?_, hF.keep 13 (fun j x _ h => VM.st27 b11 o8 _ _ h) ?_⟩
              · simp [f11, f8]
              · exact hb.setCell (p := ⟨A11, 0, none⟩) m11 _
              · exact ⟨A11, _, f11, m11, b11.set 0 _, o8.typed b11 (by decide) _⟩
            · cases ho
              have f9 : u 55 = .bool RB := hF 9 (by decide) (hall ⟨9, .data⟩ (by simp) rfl)
              refine wpOp_step rfl (fun K hK => ?_)
              simp only [f9]
              go_simp
              refine hK _ _ ⟨upd u 16 (.bool RB), ?_, ST.out (by decide) (by decide) (by decide) (by decide) _ _ (Below.refl _ _) (rfl)⟩
              simp [upd, f9]
        case rest =>
          obtain ⟨GA, GB, yg, rfl, rfl, rfl, hGA, hGB, hB1, hB2, hO, hbx⟩ := hcut
          generalize hwc : wc = w6 at *
          clear hwc
          have BS6 : Hid (Bs w6 [(w.heap.size, [.int .u32 lo, .int .u32 hi, .string s], 44), (w.heap.size + 1, [.slice ao ch.length cap], 45), (PA, [.int .u32 RL, .int .u32 RH, .string RS], 32), (PB, [yw], 27), (XB, [.slice xa ch.length xc], 27), (GA, [.int .u32 RL, .int .u32 RH, .string RS], 32), (GB, [yg], 27)]) := by
            intro y hy
            simp only [List.mem_cons, List.not_mem_nil, or_false] at hy
            rcases hy with rfl | rfl | rfl | rfl | rfl | rfl | rfl
            · exact (BS5.out.below hbx).get (by simp)
            · exact (BS5.out.below hbx).get (by simp)
            · exact (BS5.out.below hbx).get (by simp)
            · exact (BS5.out.below hbx).get (by simp)
            · exact (BS5.out.below hbx).get (by simp)
            · exact hB1
            · exact hB2
          have A6 := hid (A5.out.trans (hbx.mono A5.out.size))
          have W6 := hid (W5.out.below hbx)
          have X6 := hid (X5.out.below hbx)
          have G6 := hid hO
          obtain ⟨wa, wcp, rfl⟩ := hid_shape W6
          obtain ⟨ga, gcp, rfl⟩ := hid_shape G6
          have hgX : Hid (∀ (a : Addr) n c, (Value.slice xa ch.length xc) = .slice (some a) n c → w3.heap.size ≤ a.block ∧ a.block < w5.heap.size) := fun a n c h => by
            have h5 := HX5.out
            rw [h] at h5
            exact h5.ge
          have hgG : Hid (∀ (a : Addr) n c, (Value.slice ga RC.length gcp) = .slice (some a) n c → w5.heap.size ≤ a.block ∧ a.block < w6.heap.size) := fun a n c h => by
            have h5 := G6.out
            rw [h] at h5
            exact h5.ge
          have HGA := hid hGA
          have HGB := hid hGB
          clear hbx hB1 hB2 hO hGA hGB BS5 A5 W5 X5 W3 BS3
          have w0a := (BS6.out.get (b := PA) (l := [.int .u32 RL, .int .u32 RH, .string RS]) (t := 32) (by simp)).cell (i := 0) rfl
          have w0b := (BS6.out.get (b := PA) (l := [.int .u32 RL, .int .u32 RH, .string RS]) (t := 32) (by simp)).cell (i := 1) rfl
          have w0c := (BS6.out.get (b := PA) (l := [.int .u32 RL, .int .u32 RH, .string RS]) (t := 32) (by simp)).cell (i := 2) rfl
          have g0a := (BS6.out.get (b := GA) (l := [.int .u32 RL, .int .u32 RH, .string RS]) (t := 32) (by simp)).cell (i := 0) rfl
          have g0b := (BS6.out.get (b := GA) (l := [.int .u32 RL, .int .u32 RH, .string RS]) (t := 32) (by simp)).cell (i := 1) rfl
          have g0c := (BS6.out.get (b := GA) (l := [.int .u32 RL, .int .u32 RH, .string RS]) (t := 32) (by simp)).cell (i := 2) rfl
          have w1a := (BS6.out.get (b := PB) (l := [.slice wa RC.length wcp]) (t := 27) (by simp)).cell (i := 0) rfl
          have g1a := (BS6.out.get (b := GB) (l := [.slice ga RC.length gcp]) (t := 27) (by simp)).cell (i := 0) rfl
          go_wp2_with fail
          refine (HEC.out w6).mono ?_
          rintro e w7 ⟨rfl, hb7⟩
          have BS7 := hid (BS6.out.below hb7)
          have A7 := hid (A6.out.trans (hb7.mono A6.out.size))
          have W7 := hid (W6.out.below hb7)
          have X7 := hid (X6.out.below hb7)
          have G7 := hid (G6.out.below hb7)
          have w1a_7 := (BS7.out.get (b := PB) (l := [.slice wa RC.length wcp]) (t := 27) (by simp)).cell (i := 0) rfl
          have g1a_7 := (BS7.out.get (b := GB) (l := [.slice ga RC.length gcp]) (t := 27) (by simp)).cell (i := 0) rfl
          have hRR : (RB != RB) = false := by simp
          clear w0a w0b w0c g0a g0b g0c w1a g1a
          clear hb7 BS6 A6 W6 X6 G6
          go_wp2_with fail
          refine (HEM.out _ _ w7 G7.out.vw W7.out.vw).mono ?_
          rintro e w8 ⟨rfl, hb8⟩
          have BS8 := hid (BS7.out.below hb8)
          have A8 := hid (A7.out.trans (hb8.mono A7.out.size))
          have W8 := hid (W7.out.below hb8)
          have X8 := hid (X7.out.below hb8)
          have G8 := hid (G7.out.below hb8)
          have x1a_8 := (BS8.out.get (b := XB) (l := [.slice xa ch.length xc]) (t := 27) (by simp)).cell (i := 0) rfl
          have m1a_8 := (BS8.out.get (b := (w.heap.size + 1)) (l := [.slice ao ch.length cap]) (t := 45) (by simp)).cell (i := 0) rfl
          clear hb8 BS7 A7 W7 X7 G7 w1a_7 g1a_7
          go_wp2_with fail
          go_cut [75] from 71 to 74 (fun c wx => c = .bool false ∧ Below w8.heap.size w8 wx)
          case first =>
            have HTM8 := hid (fun q (hq : Below w8.heap.size w8 q) => HTM.out q (A8.out.trans (hq.mono A8.out.size)))
            go_region_with (first
              | (go_at_call 20; refine (HTM8.out _ ?_).mono ?_; · first | exact (Below.refl _ _).drew | exact Below.refl _ _ | exact (Below.refl _ _).drew.drew
                 rintro e w9 ⟨v3, rfl, o3, hb9⟩
                 have hc9 : Below w8.heap.size w8 w9 := by first | exact Below.trans (Below.refl _ _).drew hb9 | exact hb9
                 have x1a_9 := ((BS8.out.below hc9).get (b := XB) (l := [.slice xa ch.length xc]) (t := 27) (by simp)).cell (i := 0) rfl)
              | (go_at_call 22; refine (HEX.out _ v3 _ ?_ ?_).mono ?_; · exact (X8.out.below hc9).vw
                 · exact o3.vw
                 rintro e w10 ⟨rfl, hb10⟩))
            all_goals
              go_wp2_with fail
              go_meet
              exact ⟨rfl, hc9.trans (hb10.mono hc9.size)⟩
          case rest =>
            obtain ⟨rfl, hb9⟩ := hcut
            generalize hwc : wc = w9 at *
            clear hwc
            have BS9 := hid (BS8.out.below hb9)
            have A9 := hid (A8.out.trans (hb9.mono A8.out.size))
            have W9 := hid (W8.out.below hb9)
            have X9 := hid (X8.out.below hb9)
            have G9 := hid (G8.out.below hb9)
            have x1a_9 := (BS9.out.get (b := XB) (l := [.slice xa ch.length xc]) (t := 27) (by simp)).cell (i := 0) rfl
            clear hb9 BS8 A8 W8 X8 G8 x1a_8 m1a_8
            have hqx : ¬ ((ch.length : Int) + 1 < 0) := by omega
            have hqr : ¬ ((RC.length : Int) + 1 < 0) := by omega
            go_wp2_with fail
            refine (HMX.out w3.heap.size _ w9 X9.out.1 X9.out).mono ?_
            rintro e w10 ⟨rfl, ho10, hb10, hk10⟩
            have BS10 := hid (BS9.out.marked X9.out hk10 (by simp))
            have A10 := hid (A9.out.trans (hb10.mono HW3.out))
            have W10 := hid (W9.out.kept hk10 hb10.size (fun a b n c m d e1 e2 => by
              have h1 := hgX.out a n c e1
              have h2 := hgW.out b m d e2
              omega))
            have G10 := hid (G9.out.kept hk10 hb10.size (fun a b n c m d e1 e2 => by
              have h1 := hgX.out a n c e1
              have h2 := hgG.out b m d e2
              omega))
            have w0a_10 := (BS10.out.get (b := PA) (l := [.int .u32 RL, .int .u32 RH, .string RS]) (t := 32) (by simp)).cell (i := 0) rfl
            have w0b_10 := (BS10.out.get (b := PA) (l := [.int .u32 RL, .int .u32 RH, .string RS]) (t := 32) (by simp)).cell (i := 1) rfl
            have w0c_10 := (BS10.out.get (b := PA) (l := [.int .u32 RL, .int .u32 RH, .string RS]) (t := 32) (by simp)).cell (i := 2) rfl
            have g0a_10 := (BS10.out.get (b := GA) (l := [.int .u32 RL, .int .u32 RH, .string RS]) (t := 32) (by simp)).cell (i := 0) rfl
            have g0b_10 := (BS10.out.get (b := GA) (l := [.int .u32 RL, .int .u32 RH, .string RS]) (t := 32) (by simp)).cell (i := 1) rfl
            have g0c_10 := (BS10.out.get (b := GA) (l := [.int .u32 RL, .int .u32 RH, .string RS]) (t := 32) (by simp)).cell (i := 2) rfl
            clear ho10 hb10 hk10 BS9 A9 W9 X9 G9 x1a_9
            go_wp2_with fail
            refine (HEC.out w10).mono ?_
            rintro e w11 ⟨rfl, hb11⟩
            have BS11 := hid (BS10.out.below hb11)
            have A11 := hid (A10.out.trans (hb11.mono A10.out.size))
            have W11 := hid (W10.out.below hb11)
            have G11 := hid (G10.out.below hb11)
            have w1a_11 := (BS11.out.get (b := PB) (l := [.slice wa RC.length wcp]) (t := 27) (by simp)).cell (i := 0) rfl
            have g1a_11 := (BS11.out.get (b := GB) (l := [.slice ga RC.length gcp]) (t := 27) (by simp)).cell (i := 0) rfl
            clear hb11 BS10 A10 W10 G10 w0a_10 w0b_10 w0c_10 g0a_10 g0b_10 g0c_10
            go_wp2_with fail
            refine (HEM.out _ _ w11 G11.out.vw W11.out.vw).mono ?_
            rintro e w12 ⟨rfl, hb12⟩
            have BS12 := hid (BS11.out.below hb12)
            have A12 := hid (A11.out.trans (hb12.mono A11.out.size))
            have W12 := hid (W11.out.below hb12)
            have G12 := hid (G11.out.below hb12)
            have g1a_12 := (BS12.out.get (b := GB) (l := [.slice ga RC.length gcp]) (t := 27) (by simp)).cell (i := 0) rfl
            clear hb12 BS11 A11 W11 G11 w1a_11 g1a_11
            go_wp2_with fail
            refine (HMR.out w5.heap.size _ w12 G12.out.1 G12.out).mono ?_
            rintro e w13 ⟨rfl, ho13, hb13, hk13⟩
            have BS13 := hid (BS12.out.marked G12.out hk13 (by simp))
            have A13 := hid (A12.out.trans (hb13.mono (Nat.le_trans HW3.out HW5.out)))
            have W13 := hid (W12.out.kept hk13 hb13.size (fun a b n c m d e1 e2 => by
              have h1 := hgG.out a n c e1
              have h2 := hgW.out b m d e2
              have h3 := HW5.out
              omega))
            have G13 := hid ho13
            have g1a_13 := (BS13.out.get (b := GB) (l := [.slice ga RC.length gcp]) (t := 27) (by simp)).cell (i := 0) rfl
            clear ho13 hb13 hk13 BS12 A12 W12 G12 g1a_12
            go_wp2_with fail
            refine (HHR.out _ w13 G13.out.vw).mono ?_
            rintro e w14 ⟨rfl, hb14⟩
            have BS14 := hid (BS13.out.below hb14)
            have A14 := hid (A13.out.trans (hb14.mono A13.out.size))
            have W14 := hid (W13.out.below hb14)
            have G14 := hid (G13.out.below hb14)
            clear hb14 BS13 A13 W13 G13 g1a_13
            go_wp2_with fail
            go_cut [20, 21, 22] from 109 to 120 (fun p q r wx => ∃ A1 A2 y, p = .pointer (some ⟨A1, 0, none⟩) ∧ q = .pointer (some ⟨A2, 0, none⟩) ∧ r = .bool RB ∧ w14.heap.size ≤ A1 ∧ w14.heap.size ≤ A2 ∧ Blk wx A1 [.int .u32 RL, .int .u32 RH, .string RS] 32 ∧ Blk wx A2 [y] 27 ∧ Own wx w14.heap.size 3 .i64 y RC ∧ Below w14.heap.size w14 wx)
            case first =>
              refine wp_region_any (by kernel_rfl) ?_
              refine wpAny_inv (fun listed a wq => ∃ u : Nat → Value, a = { tmps := #[Value.agg #[Value.int IntKind.u32 lo, Value.int IntKind.u32 hi, Value.string s], Value.agg #[Value.slice ao ch.length cap], Value.int IntKind.i64 B, Value.int IntKind.i64 x, Value.pointer (some ⟨w.heap.size, 0, none⟩), Value.pointer (some ⟨w.heap.size + 1, 0, none⟩), undef, undef, Value.bool false, Value.int IntKind.i64 (1048576 - (s.size : Int) - (ch.length : Int)), Value.pointer (some ⟨PA, 0, none⟩), Value.pointer (some ⟨PB, 0, none⟩), Value.bool RB, Value.pointer (some ⟨XB, 0, none⟩), Value.pointer (some ⟨GA, 0, none⟩), Value.pointer (some ⟨GB, 0, none⟩), Value.bool RB, Value.int IntKind.i64 ((ch.length : Int) + 1), Value.int IntKind.i64 ((RC.length : Int) + 1), Value.int IntKind.i64 ((RC.length : Int) + 1), u 20, u 21, u 22, Value.agg #[Value.int IntKind.u32 lo, Value.int IntKind.u32 hi, Value.string s], Value.int IntKind.i64 1048576, Value.int IntKind.i64 (1048576 - (s.size : Int)), Value.int IntKind.i64 (1048576 - (s.size : Int)), Value.bool (decide ((1048576 : Int) - s.size < 0)), Value.agg #[Value.slice ao ch.length cap], Value.int IntKind.i64 (1048576 - (s.size : Int)), Value.int IntKind.i64 (1048576 - (s.size : Int) - (ch.length : Int)), Value.int IntKind.i64 (1048576 - (s.size : Int) - (ch.length : Int)), Value.bool (decide ((1048576 : Int) - s.size - (ch.length : Int) < 0)), u33, u34, u35, u36, u37, u38, u39, u40, u41, u42, u43, Value.agg #[Value.slice ao ch.length cap], Value.agg #[Value.slice xa ch.length xc], u46, u47, u48, u49, u50, u51, u52, u53, u54, u55, Value.agg #[Value.int IntKind.u32 RL, Value.int IntKind.u32 RH, Value.string RS], Value.agg #[Value.int IntKind.u32 RL, Value.int IntKind.u32 RH, Value.string RS], Value.bool true, Value.bool false, Value.bool false, Value.agg #[Value.slice ga RC.length gcp], Value.agg #[Value.slice wa RC.length wcp], Value.bool true, Value.bool false, Value.bool false, Value.bool false, Value.bool RB, Value.bool RB, Value.bool false, Value.bool false, u71, u72, u73, u74, Value.bool false, Value.agg #[Value.slice xa ch.length xc], Value.int IntKind.i64 1, Value.int IntKind.i64 ((ch.length : Int) + 1), Value.int IntKind.i64 ((ch.length : Int) + 1), Value.bool (decide ((ch.length : Int) + 1 < 0)), Value.bool (decide ((ch.length : Int) + 1 < 0)), Value.agg #[Value.int IntKind.u32 RL, Value.int IntKind.u32 RH, Value.string RS], Value.agg #[Value.int IntKind.u32 RL, Value.int IntKind.u32 RH, Value.string RS], Value.bool true, Value.bool false, Value.bool (decide ((ch.length : Int) + 1 < 0)), Value.bool (decide ((ch.length : Int) + 1 < 0)), Value.agg #[Value.slice ga RC.length gcp], Value.agg #[Value.slice wa RC.length wcp], Value.bool true, Value.bool false, Value.bool (decide ((ch.length : Int) + 1 < 0)), Value.bool (decide ((ch.length : Int) + 1 < 0)), Value.bool RB, Value.bool RB, Value.bool false, Value.bool (decide ((ch.length : Int) + 1 < 0)), Value.agg #[Value.slice ga RC.length gcp], Value.int IntKind.i64 1, Value.int IntKind.i64 ((RC.length : Int) + 1), Value.agg #[Value.slice ga RC.length gcp], Value.int IntKind.i64 1, Value.int IntKind.i64 ((RC.length : Int) + 1), Value.int IntKind.i64 ((RC.length : Int) + 1), Value.bool (decide ((RC.length : Int) + 1 < 0)), Value.int IntKind.i64 ((RC.length : Int) + 1), Value.int IntKind.i64 ((RC.length : Int) + 1), Value.bool false, u 109, u 110, u 111, u 112, u 113, u 114, u 115, u 116, u 117, u 118, u 119, undef, undef, undef, undef, undef, undef, undef, undef, undef, undef, undef, undef, undef, undef, undef, undef, undef, undef, undef, undef, undef, undef, undef], defers := [] } ∧ Below w14.heap.size w14 wq ∧ Facts 16 (fun j => VM lo hi s (.agg #[.slice ao ch.length cap]) (.bool false) B x RL RH RS RB ch RC w14.heap.size (Kc j)) Dc listed u wq) ?hpre ?hstep ?hend _ _ _ _ rfl (by decide) (fun j oj _ hl => absurd hl (by simp [Array.getD])) ⟨fun k => undef, rfl, (Below.refl _ _).drew, fun j hj hl => absurd hl (by simp [Array.getD])⟩
              case hpre => exact pre_of (by kernel_rfl)
              case hend =>
                rintro listed a wq hall ⟨u, rfl, hb, hF⟩
                obtain ⟨A1, e1, m1, b1⟩ : ∃ A1, u 20 = .pointer (some ⟨A1, 0, none⟩) ∧ w14.heap.size ≤ A1 ∧ Blk wq A1 [.int .u32 RL, .int .u32 RH, .string RS] 32 := hF 13 (by decide) (hall 13 (by decide))
                obtain ⟨A2, y, e2, m2, b2, o2⟩ : ∃ A2 y, u 21 = .pointer (some ⟨A2, 0, none⟩) ∧ w14.heap.size ≤ A2 ∧ Blk wq A2 [y] 27 ∧ Own wq w14.heap.size 3 .i64 y RC := hF 14 (by decide) (hall 14 (by decide))
                have e3 : u 22 = .bool RB := hF 15 (by decide) (hall 15 (by decide))
                go_wp2_with fail
                go_meet
                exact ⟨A1, A2, y, e1, e2, e3, m1, m2, b1, b2, o2, hb⟩
              case hstep =>
                rintro listed a wq i o hsz ⟨u, rfl, hb, hF⟩ ho hall hun hcl
                have hin : i < 16 := (Array.getElem?_eq_some_iff.1 ho).1
                have BQ := BS14.out.below hb
                have c20 := (BQ.get (b := w.heap.size) (l := [.int .u32 lo, .int .u32 hi, .string s]) (t := 44) (by simp)).cell (i := 0) rfl
                have c21 := (BQ.get (b := w.heap.size) (l := [.int .u32 lo, .int .u32 hi, .string s]) (t := 44) (by simp)).cell (i := 1) rfl
                have c22 := (BQ.get (b := w.heap.size) (l := [.int .u32 lo, .int .u32 hi, .string s]) (t := 44) (by simp)).cell (i := 2) rfl
                have m2 := (BQ.get (b := w.heap.size + 1) (l := [.slice ao ch.length cap]) (t := 45) (by simp)).cell (i := 0) rfl
                have BE : Hid (∀ (wz : World), Below wq.heap.size wq wz → ∀ j (z : Value), j < 16 → (fun j => VM lo hi s (.agg #[.slice ao ch.length cap]) (.bool false) B x RL RH RS RB ch RC w14.heap.size (Kc j)) j z wq → (fun j => VM lo hi s (.agg #[.slice ao ch.length cap]) (.bool false) B x RL RH RS RB ch RC w14.heap.size (Kc j)) j z wz) := fun wz hbz j z _ h => VM.below hbz _ _ h
                have BZ : Hid (∀ (wz : World), Below wq.heap.size wq wz → Below w14.heap.size w14 wz) := fun wz hbz => hb.trans (hbz.mono hb.size)
                have ST : Hid (i ≠ 11 → i ≠ 12 → i ≠ 13 → i ≠ 14 → ∀ (wz : World) (v : Value), Below wq.heap.size wq wz → (fun j => VM lo hi s (.agg #[.slice ao ch.length cap]) (.bool false) B x RL RH RS RB ch RC w14.heap.size (Kc j)) i v wz → Below w14.heap.size w14 wz ∧ Facts 16 (fun j => VM lo hi s (.agg #[.slice ao ch.length cap]) (.bool false) B x RL RH RS RB ch RC w14.heap.size (Kc j)) Dc (listed.setIfInBounds i true) (upd u (Dc i) v) wz) := fun h1 h2 h3 h4 wz v hbz hv => ⟨BZ.out wz hbz, hF.step i v (fun j hj hne _ => Dc_ne ⟨i, hin⟩ ⟨j, hj⟩ (fun e => hne (congrArg Fin.val e)) h1 h2 h3 h4) (BE.out wz hbz) hv⟩
                obtain rfl | rfl | rfl | rfl | rfl | rfl | rfl | rfl | rfl | rfl | rfl | rfl | rfl | rfl | rfl | rfl : i = 0 ∨ i = 1 ∨ i = 2 ∨ i = 3 ∨ i = 4 ∨ i = 5 ∨ i = 6 ∨ i = 7 ∨ i = 8 ∨ i = 9 ∨ i = 10 ∨ i = 11 ∨ i = 12 ∨ i = 13 ∨ i = 14 ∨ i = 15 := by omega
                · cases ho
                  refine wpOp_step rfl (fun K hK => ?_)
                  go_simp
                  refine hK _ _ ⟨upd u 110 (.agg #[.int .u32 lo, .int .u32 hi, .string s]), ?_, ST.out (by decide) (by decide) (by decide) (by decide) _ _ (Below.refl _ _) (rfl)⟩
                  simp [upd]
                · cases ho
                  have f0 : u 110 = .agg #[.int .u32 lo, .int .u32 hi, .string s] := hF 0 (by decide) (hall ⟨0, .data⟩ (by simp) rfl)
                  refine wpOp_step rfl (fun K hK => ?_)
                  simp only [f0]
                  go_simp
                  go_wp2_with (go_at_call 19; refine (HTC.out wq).mono ?_; rintro e wz ⟨rfl, hbz⟩)
                  first | refine hK _ _ ⟨upd u 111 (.agg #[.int .u32 lo, .int .u32 hi, .string s]), ?_, ST.out (by decide) (by decide) (by decide) (by decide) _ _ hbz rfl⟩ | refine ⟨upd u 111 (.agg #[.int .u32 lo, .int .u32 hi, .string s]), ?_, ST.out (by decide) (by decide) (by decide) (by decide) _ _ hbz rfl⟩
                  simp [upd, f0]
                · cases ho
                  refine wpOp_step rfl (fun K hK => ?_)
                  go_simp
                  refine hK _ _ ⟨upd u 112 (.agg #[.slice ao ch.length cap]), ?_, ST.out (by decide) (by decide) (by decide) (by decide) _ _ (Below.refl _ _) (rfl)⟩
                  simp [upd]
                · cases ho
                  have f2 : u 112 = .agg #[.slice ao ch.length cap] := hF 2 (by decide) (hall ⟨2, .data⟩ (by simp) rfl)
                  refine wpOp_step rfl (fun K hK => ?_)
                  simp only [f2]
                  go_simp
                  go_wp2_with (go_at_call 20; refine (HTM.out wq (A14.out.trans (hb.mono A14.out.size))).mono ?_; rintro e wz ⟨y, rfl, oy, hbz⟩)
                  first | refine hK _ _ ⟨upd u 113 (.agg #[y]), ?_, ST.out (by decide) (by decide) (by decide) (by decide) _ _ hbz ⟨y, rfl, oy.lower hb.size⟩⟩ | refine ⟨upd u 113 (.agg #[y]), ?_, ST.out (by decide) (by decide) (by decide) (by decide) _ _ hbz ⟨y, rfl, oy.lower hb.size⟩⟩
                  simp [upd, f2]
                · cases ho
                  refine wpOp_step rfl (fun K hK => ?_)
                  go_simp
                  refine hK _ _ ⟨upd u 114 (.int .i64 B), ?_, ST.out (by decide) (by decide) (by decide) (by decide) _ _ (Below.refl _ _) (rfl)⟩
                  simp [upd]
                · cases ho
                  refine wpOp_step rfl (fun K hK => ?_)
                  go_simp
                  refine hK _ _ ⟨upd u 115 (.int .i64 x), ?_, ST.out (by decide) (by decide) (by decide) (by decide) _ _ (Below.refl _ _) (rfl)⟩
                  simp [upd]
                · cases ho
                  have f1 : u 111 = .agg #[.int .u32 lo, .int .u32 hi, .string s] := hF 1 (by decide) (hall ⟨1, .data⟩ (by simp) rfl)
                  obtain ⟨y3, f3, o3⟩ : ∃ y, u 113 = .agg #[y] ∧ Own wq w14.heap.size 3 .i64 y ch := hF 3 (by decide) (hall ⟨3, .data⟩ (by simp) rfl)
                  have f4 : u 114 = .int .i64 B := hF 4 (by decide) (hall ⟨4, .data⟩ (by simp) rfl)
                  have f5 : u 115 = .int .i64 x := hF 5 (by decide) (hall ⟨5, .data⟩ (by simp) rfl)
                  refine wpOp_step rfl (fun K hK => ?_)
                  simp only [f1, f3, f4, f5]
                  go_simp
                  go_wp2_with (go_at_call 10; refine (HIP.out y3 wq o3.vp).mono ?_; rintro e wz ⟨y, rfl, oy, hbz⟩)
                  first | refine hK _ _ ⟨upd u 116 (.tuple #[.agg #[.int .u32 RL, .int .u32 RH, .string RS], .agg #[y], .bool RB]), ?_, ST.out (by decide) (by decide) (by decide) (by decide) _ _ hbz ⟨y, rfl, oy.lower hb.size⟩⟩ | refine ⟨upd u 116 (.tuple #[.agg #[.int .u32 RL, .int .u32 RH, .string RS], .agg #[y], .bool RB]), ?_, ST.out (by decide) (by decide) (by decide) (by decide) _ _ hbz ⟨y, rfl, oy.lower hb.size⟩⟩
                  simp [upd, f1, f3, f4, f5]
                · cases ho
                  obtain ⟨y6, f6, o6⟩ : ∃ y, u 116 = .tuple #[.agg #[.int .u32 RL, .int .u32 RH, .string RS], .agg #[y], .bool RB] ∧ Own wq w14.heap.size 3 .i64 y RC := hF 6 (by decide) (hall ⟨6, .data⟩ (by simp) rfl)
                  refine wpOp_step rfl (fun K hK => ?_)
                  simp only [f6]
                  go_simp
                  refine hK _ _ ⟨upd u 109 (.tuple #[.agg #[.int .u32 RL, .int .u32 RH, .string RS], .agg #[y6], .bool RB]), ?_, ST.out (by decide) (by decide) (by decide) (by decide) _ _ (Below.refl _ _) ⟨y6, rfl, o6⟩⟩
                  simp [upd, f6]
                · cases ho
                  obtain ⟨y7, f7, o7⟩ : ∃ y, u 109 = .tuple #[.agg #[.int .u32 RL, .int .u32 RH, .string RS], .agg #[y], .bool RB] ∧ Own wq w14.heap.size 3 .i64 y RC := hF 7 (by decide) (hall ⟨7, .data⟩ (by simp) rfl)
                  refine wpOp_step rfl (fun K hK => ?_)
                  simp only [f7]
                  go_simp
                  refine hK _ _ ⟨upd u 117 (.agg #[.int .u32 RL, .int .u32 RH, .string RS]), ?_, ST.out (by decide) (by decide) (by decide) (by decide) _ _ (Below.refl _ _) (rfl)⟩
                  simp [upd, f7]
                · cases ho
                  obtain ⟨y7, f7, o7⟩ : ∃ y, u 109 = .tuple #[.agg #[.int .u32 RL, .int .u32 RH, .string RS], .agg #[y], .bool RB] ∧ Own wq w14.heap.size 3 .i64 y RC := hF 7 (by decide) (hall ⟨7, .data⟩ (by simp) rfl)
                  refine wpOp_step rfl (fun K hK => ?_)
                  simp only [f7]
                  go_simp
                  refine hK _ _ ⟨upd u 118 (.agg #[y7]), ?_, ST.out (by decide) (by decide) (by decide) (by decide) _ _ (Below.refl _ _) ⟨y7, rfl, o7⟩⟩
                  simp [upd, f7]
                · cases ho
                  obtain ⟨y7, f7, o7⟩ : ∃ y, u 109 = .tuple #[.agg #[.int .u32 RL, .int .u32 RH, .string RS], .agg #[y], .bool RB] ∧ Own wq w14.heap.size 3 .i64 y RC := hF 7 (by decide) (hall ⟨7, .data⟩ (by simp) rfl)
                  refine wpOp_step rfl (fun K hK => ?_)
                  simp only [f7]
                  go_simp
                  refine hK _ _ ⟨upd u 119 (.bool RB), ?_, ST.out (by decide) (by decide) (by decide) (by decide) _ _ (Below.refl _ _) (rfl)⟩
                  simp [upd, f7]
                · cases ho
                  refine wpOp_step rfl (fun K hK => ?_)
                  go_simp
                  have hno : ∀ j, j < 16 → j ≠ 11 → listed.getD j false = true → Dc j ≠ Dc 11 := fun j hj hne hl => by
                    refine Dc_ne11 ⟨j, hj⟩ hne ?_
                    intro e
                    have e : j = 13 := e
                    subst e
                    have := hcl 13 _ rfl hl ⟨11, .data⟩ (by simp) rfl
                    rw [Array.getD] at this hun
                    split at this
                    · rename_i h; rw [dif_pos h] at hun; rw [this] at hun; cases hun
                    · cases this
                  have hbz : Below wq.heap.size wq (wq.alloc (.cells #[.int .u32 0, .int .u32 0, .string ⟨#[]⟩] 32)) := (Below.refl _ _).alloc (Nat.le_refl _) _
                  refine hK _ _ ⟨upd u 20 (.pointer (some ⟨wq.heap.size, 0, none⟩)), ?_, BZ.out _ hbz, hF.step 11 _ hno (BE.out _ hbz) ⟨_, _, _, _, rfl, hb.size, Blk.new wq [.int .u32 0, .int .u32 0, .string ⟨#[]⟩] 32⟩⟩
                  simp [upd]
                · cases ho
                  refine wpOp_step rfl (fun K hK => ?_)
                  go_simp
                  have hno : ∀ j, j < 16 → j ≠ 12 → listed.getD j false = true → Dc j ≠ Dc 12 := fun j hj hne hl => by
                    refine Dc_ne12 ⟨j, hj⟩ hne ?_
                    intro e
                    have e : j = 14 := e
                    subst e
                    have := hcl 14 _ rfl hl ⟨12, .data⟩ (by simp) rfl
                    rw [Array.getD] at this hun
                    split at this
                    · rename_i h; rw [dif_pos h] at hun; rw [this] at hun; cases hun
                    · cases this
                  have hbz : Below wq.heap.size wq (wq.alloc (.cells #[.slice none 0 0] 27)) := (Below.refl _ _).alloc (Nat.le_refl _) _
                  refine hK _ _ ⟨upd u 21 (.pointer (some ⟨wq.heap.size, 0, none⟩)), ?_, BZ.out _ hbz, hF.step 12 _ hno (BE.out _ hbz) ⟨_, _, rfl, hb.size, Blk.new wq [.slice none 0 0] 27⟩⟩
                  simp [upd]
                · cases ho
                  obtain ⟨A11, p11, q11, r11, f11, m11, b11⟩ : ∃ A a b c, u 20 = .pointer (some ⟨A, 0, none⟩) ∧ w14.heap.size ≤ A ∧ Blk wq A [a, b, c] 32 := hF 11 (by decide) (hall ⟨11, .data⟩ (by simp) rfl)
                  have f8 : u 117 = .agg #[.int .u32 RL, .int .u32 RH, .string RS] := hF 8 (by decide) (hall ⟨8, .data⟩ (by simp) rfl)
                  have c0 := b11.cell (i := 0) rfl
                  have c1 := b11.cell (i := 1) rfl
                  have c2 := b11.cell (i := 2) rfl
                  have g0 := b11.free 0
                  have g1 := b11.free 1
                  have g2 := b11.free 2
                  refine wpOp_step rfl (fun K hK => ?_)
                  simp only [f11, f8]
                  go_simp
                  refine hK _ _ ⟨u, ?_, ?_, hF.keep 13 (fun j x _ h => VM.st32 b11 _ _ h) ?_⟩
                  · simp [f11, f8]
                  · exact ((hb.setCell (p := ⟨A11, 0, none⟩) m11 _).setCell (p := ⟨A11, 1, none⟩) m11 _).setCell (p := ⟨A11, 2, none⟩) m11 _
                  · exact ⟨A11, f11, m11, ((b11.set 0 _).set 1 _).set 2 _⟩
                · cases ho
                  obtain ⟨A12, p12, f12, m12, b12⟩ : ∃ A a, u 21 = .pointer (some ⟨A, 0, none⟩) ∧ w14.heap.size ≤ A ∧ Blk wq A [a] 27 := hF 12 (by decide) (hall ⟨12, .data⟩ (by simp) rfl)
                  obtain ⟨y9, f9, o9⟩ : ∃ y, u 118 = .agg #[y] ∧ Own wq w14.heap.size 3 .i64 y RC := hF 9 (by decide) (hall ⟨9, .data⟩ (by simp) rfl)
                  obtain ⟨ya, yc, hy⟩ := o9.shape
                  subst hy
                  have c0 := b12.cell (i := 0) rfl
                  have g0 := b12.free 0
                  refine wpOp_step rfl (fun K hK => ?_)
                  simp only [f12, f9]
                  go_simp
                  refine hK _ _ ⟨u, ?_, ?_, hF.keep 14 (fun j x _ h => VM.st27 b12 o9 _ _ h) ?_⟩
                  · simp [f12, f9]
                  · exact hb.setCell (p := ⟨A12, 0, none⟩) m12 _
                  · exact ⟨A12, _, f12, m12, b12.set 0 _, o9.typed b12 (by decide) _⟩
                · cases ho
                  have f10 : u 119 = .bool RB := hF 10 (by decide) (hall ⟨10, .data⟩ (by simp) rfl)
                  refine wpOp_step rfl (fun K hK => ?_)
                  simp only [f10]
                  go_simp
                  refine hK _ _ ⟨upd u 22 (.bool RB), ?_, ST.out (by decide) (by decide) (by decide) (by decide) _ _ (Below.refl _ _) (rfl)⟩
                  simp [upd, f10]
            case rest =>
              obtain ⟨QA, QB, yh, rfl, rfl, rfl, hQA, hQB, hB1, hB2, hO, hb15⟩ := hcut
              generalize hwc : wc = w15 at *
              clear hwc
              have BS15 := hid (BS14.out.below hb15)
              have A15 := hid (A14.out.trans (hb15.mono A14.out.size))
              have W15 := hid (W14.out.below hb15)
              have G15 := hid (G14.out.below hb15)
              have H15 := hid hO
              obtain ⟨ha, hcp, rfl⟩ := hid_shape H15
              have q0a := hB1.cell (i := 0) rfl
              have q0b := hB1.cell (i := 1) rfl
              have q0c := hB1.cell (i := 2) rfl
              have Q15 := hid hB2
              clear hO hb15 hB1 hB2 hQA hQB BS14 A14 W14 G14
              have w0a_15 := (BS15.out.get (b := PA) (l := [.int .u32 RL, .int .u32 RH, .string RS]) (t := 32) (by simp)).cell (i := 0) rfl
              have w0b_15 := (BS15.out.get (b := PA) (l := [.int .u32 RL, .int .u32 RH, .string RS]) (t := 32) (by simp)).cell (i := 1) rfl
              have w0c_15 := (BS15.out.get (b := PA) (l := [.int .u32 RL, .int .u32 RH, .string RS]) (t := 32) (by simp)).cell (i := 2) rfl
              go_wp2_with fail
              refine (HEC.out w15).mono ?_
              rintro e w16 ⟨rfl, hb16⟩
              have BS16 := hid (BS15.out.below hb16)
              have A16 := hid (A15.out.trans (hb16.mono A15.out.size))
              have W16 := hid (W15.out.below hb16)
              have G16 := hid (G15.out.below hb16)
              have H16 := hid (H15.out.below hb16)
              have w1a_16 := (BS16.out.get (b := PB) (l := [.slice wa RC.length wcp]) (t := 27) (by simp)).cell (i := 0) rfl
              have q1a := (Q15.out.below hb16 Q15.out.lt).cell (i := 0) rfl
              clear hb16 BS15 A15 W15 G15 H15 Q15 q0a q0b q0c w0a_15 w0b_15 w0c_15
              go_wp2_with fail
              refine (HEM.out _ _ w16 H16.out.vw W16.out.vw).mono ?_
              rintro e w17 ⟨rfl, hb17⟩
              have BS17 := hid (BS16.out.below hb17)
              have A17 := hid (A16.out.trans (hb17.mono A16.out.size))
              have G17 := hid (G16.out.below hb17)
              have g1a_17 := (BS17.out.get (b := GB) (l := [.slice ga RC.length gcp]) (t := 27) (by simp)).cell (i := 0) rfl
              clear hb17 BS16 A16 W16 G16 H16 w1a_16 q1a
              go_wp2_with fail
              refine (HHR.out _ w17 G17.out.vw).mono ?_
              rintro e w18 ⟨rfl, hb18⟩
              have A18 := hid (A17.out.trans (hb18.mono A17.out.size))
              clear hb18
              go_wp2_with fail
              go_ret
              exact ⟨rfl, A18.out⟩
    · have HSM : Hid (∀ q, Calls Try.prog 17 #[.agg #[.slice ao ch.length cap], .int .i64 (1048576 - s.size)] q fun e w' => e = .returned (.int .i64 (-1)) ∧ Below q.heap.size q w') := fun q => by
        have := sz_model ao ch.length cap (1048576 - s.size) q (by omega) (by omega) hlen
        rw [show lft (1048576 - s.size) ch.length = -1 by unfold lft; rw [if_pos (by omega)]] at this
        exact this
      have t1 : ¬ (1048576 : Int) - s.size < 0 := by omega
      unfold cV at *
      go_enter Try.func4, Try.ntmps4
      go_wp2_with fail
      refine (HSC.out _).mono ?_
      generalize (w.alloc (.cells #[.int .u32 lo, .int .u32 hi, .string s] 44)).alloc (.cells #[.slice ao ch.length cap] 45) = w0 at *
      rintro e w1 ⟨rfl, hb1⟩
      have BS1 := hid (BS0.out.below hb1)
      have A1 := hid (N3.out.trans (hb1.mono N3.out.size))
      have m1 := (BS1.out.get (b := w.heap.size + 1) (l := [.slice ao ch.length cap]) (t := 45) (by simp)).cell (i := 0) rfl
      clear hb1 BS0 N3
      go_wp2_with fail
      refine (HSM.out _).mono ?_
      rintro e w2 ⟨rfl, hb2⟩
      have A2 := hid (A1.out.trans (hb2.mono A1.out.size))
      clear hb2
      go_wp2_with fail
      go_ret
      exact ⟨rfl, A2.out⟩
  · have HSC := hid (fun q => sz_coder_big lo hi s q (by omega) hm)
    unfold cV at *
    go_enter Try.func4, Try.ntmps4
    go_wp2_with fail
    refine (HSC.out _).mono ?_
    generalize (w.alloc (.cells #[.int .u32 lo, .int .u32 hi, .string s] 44)).alloc (.cells #[.slice ao ch.length cap] 45) = w0 at *
    rintro e w1 ⟨rfl, hb1⟩
    have A1 := hid (N3.out.trans (hb1.mono N3.out.size))
    clear hb1
    go_wp2_with fail
    go_ret
    exact ⟨rfl, A1.out⟩
end Go.Proofs.Ytimafabbepgifaa
