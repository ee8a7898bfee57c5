/- The walk of the law FnModel. -/
import Derived.Test.YtimafabbepgifaaFo
import Derived.Test.YtimafabbepgifaaDn
import Derived.Test.YtimafabbepgifaaRj
import Derived.Test.YtimafabbepgifaaMs
import Derived.Deep.CutRange
namespace Go.Proofs.Ytimafabbepgifaa
open Go.RowKit
set_option linter.unusedVariables false

theorem msL48 : msL 48 = List.replicate 48 2048 := rfl
theorem msB48 : msB 48 = true := rfl
theorem hid_shapeF {w : World} {base : Nat} {e : TypeId} {k : IntKind} {v : Value} {xs : List Int} (h : Hid (Own w base e k v xs)) : ∃ ao cap, v = .slice ao xs.length cap := h.out.shape
/-- Kinds from 100 on leave a value that is known. -/
def VC (cs : List Value) (V : Nat → Value → World → Prop) (k : Nat) (v : Value) (w : World) : Prop := if 100 ≤ k then v = cs.getD (k - 100) undef else V k v w
theorem VC.lift {cs : List Value} {V : Nat → Value → World → Prop} {w w' : World} (h : ∀ k v, V k v w → V k v w') (k : Nat) (v : Value) (hv : VC cs V k v w) : VC cs V k v w' := by
  unfold VC at hv ⊢
  split at hv
  · rename_i h1; rw [if_pos h1]; exact hv
  · rename_i h1; rw [if_neg h1]; exact h _ _ hv
def Kg : Nat → Nat := fun j => #[0, 16, 100, 101, 4, 102, 100, 103, 5, 6, 7, 8, 9, 10, 11, 12, 13, 14, 15].getD j 99
def Dg : Nat → Nat := fun j => #[35, 36, 37, 38, 39, 40, 41, 42, 43, 44, 34, 45, 46, 47, 8, 9, 8, 9, 10].getD j 999
theorem Dg_ne : ∀ i j : Fin 19, j ≠ i → i.val ≠ 14 → i.val ≠ 15 → i.val ≠ 16 → i.val ≠ 17 → Dg j ≠ Dg i := by decide
theorem Dg_ne11 : ∀ j : Fin 19, j.val ≠ 14 → j.val ≠ 16 → Dg j ≠ Dg 14 := by decide
theorem Dg_ne12 : ∀ j : Fin 19, j.val ≠ 15 → j.val ≠ 17 → Dg j ≠ Dg 15 := by decide

set_option maxRecDepth 100000 in
set_option maxHeartbeats 6400000 in
theorem law_fnModel (ao : Option Addr) (n cap : Nat) (zs : List Int) (w : World) (hr : IsRow .u8 w ao n cap zs) :
    Calls Try.prog 3 #[.slice ao n cap] w fun e w' => e = .returned (.bool true) ∧ Below w.heap.size w w' := by
  have hlen := hr.len.1
  by_cases hl : (1048576 : Int) < (n : Int)
  · have hd : decide ((1048576 : Int) < (n : Int)) = true := by simpa using hl
    clear hr
    go_enter Try.func3, Try.ntmps3
    go_wp2_with (go_at_call 6; refine (big_any _ _ _ _).mono ?_; rw [hd]; rintro e w' ⟨rfl, rfl⟩)
    go_ret
    exact ⟨rfl, Below.refl _ _⟩
  · have hd : decide ((1048576 : Int) < (n : Int)) = false := by simpa using hl
    have HC := hid (code_row hr (by omega))
    clear hr hl
    go_enter Try.func3, Try.ntmps3
    go_wp2_with fail
    refine (big_any _ _ _ _).mono ?_
    rw [hd]
    rintro e w' ⟨rfl, rfl⟩
    clear hd
    go_wp2_with fail
    refine (draw_nums ao n cap _ w HC.out).mono ?_
    rintro e w1 ⟨vl, xs, rfl, hx60, hxb, ho1, hb1⟩
    obtain ⟨la, lc, rfl⟩ := ho1.shape
    have L1 := hid ho1
    have B1 := hid hb1
    have HXB : Hid (∀ j, j < xs.length → -2047 ≤ xs.getD j 0 ∧ xs.getD j 0 ≤ 2047) := fun j hj => by
      rw [List.getD_eq_getElem?_getD, List.getElem?_eq_getElem hj]
      exact hxb _ (List.getElem_mem hj)
    have HMS := hid (fun q => impl_modelStart 48 q (by decide) (by decide))
    rw [msL48, msB48] at HMS
    clear ho1 hb1 hxb HC
    go_wp2_with fail
    refine (HMS.out w1).mono ?_
    rintro e w2 ⟨vm, rfl, ho2, hb2⟩
    obtain ⟨ma, mc, hvm⟩ := ho2.shape
    replace hvm : vm = .slice ma 48 mc := hvm
    subst hvm
    have NM := hid ((Below.refl w2.heap.size w2).alloc (Nat.le_refl _) (.cells #[.slice ma 48 mc] 27))
    have C2 := hid (hb2.trans (NM.out.mono hb2.size))
    have M3 := hid (ho2.alloc (.cells #[.slice ma 48 mc] 27))
    have KM3 := hid (Blk.new w2 [.slice ma 48 mc] 27)
    have L3 := hid (L1.out.below C2.out)
    have B3 := hid (B1.out.trans (C2.out.mono B1.out.size))
    have HB20 := hid hb2.size
    clear ho2 hb2 NM
    go_wp2_with fail
    refine (coder_start ⟨#[]⟩ _).mono ?_
    generalize w2.alloc (.cells #[.slice ma 48 mc] 27) = w3 at *
    have HBM0 := hid (show w1.heap.size ≤ w2.heap.size from HB20.out)
    generalize w2.heap.size = BM at *
    rintro e w4 ⟨rfl, hb4⟩
    have NC := hid ((Below.refl w4.heap.size w4).alloc (Nat.le_refl _) (.cells #[.int .u32 0, .int .u32 4294967295, .string ⟨#[]⟩] 32))
    have C4 := hid (hb4.trans (NC.out.mono hb4.size))
    have M5 := hid (M3.out.below C4.out)
    have KM5 := hid (KM3.out.below C4.out KM3.out.lt)
    have KC5 := hid (Blk.new w4 [.int .u32 0, .int .u32 4294967295, .string ⟨#[]⟩] 32)
    have L5 := hid (L3.out.below C4.out)
    have B5 := hid (B3.out.trans (C4.out.mono B3.out.size))
    have C5 := hid (C2.out.trans (C4.out.mono C2.out.size))
    have HB43 := hid (show BM < w4.heap.size from Nat.lt_of_lt_of_le KM3.out.lt hb4.size)
    clear hb4 NC C4 C2 M3 KM3 L3 B3
    unfold cV
    go_wp2_with fail
    generalize w4.alloc (.cells #[.int .u32 0, .int .u32 4294967295, .string ⟨#[]⟩] 32) = w5 at *
    have HBB := hid (show w1.heap.size ≤ BM ∧ w1.heap.size ≤ w4.heap.size from ⟨HBM0.out, Nat.le_trans HBM0.out (Nat.le_of_lt HB43.out)⟩)
    generalize w4.heap.size = BC at *
    have hBM : BM < w5.heap.size := KM5.out.lt
    have hBC : BC < w5.heap.size := KC5.out.lt
    have hBMC : BM ≠ BC := KM5.out.apart KC5.out (by decide)
    have hMC1 := hid hBMC
    have hCM1 := hid (fun e => hBMC (Eq.symm e) : BC ≠ BM)
    have HW1 := hid (show w1.heap.size ≤ BM ∧ w1.heap.size ≤ BC from HBB.out)
    go_loopw [7] (fun i wr => ∃ (k : Nat) (va : Option Addr) (vc : Nat), k ≤ xs.length ∧ i = .int .i64 k ∧ Hid (Blk wr BC [.int .u32 (stN xs k).lo, .int .u32 (stN xs k).hi, .string (strOfNums (stN xs k).o)] 32) ∧ Hid (Blk wr BM [.slice va 48 vc] 27) ∧ Hid (Own wr w1.heap.size 3 .i64 (.slice va 48 vc) (stN xs k).ch) ∧ Hid (Own wr w.heap.size 3 .i64 (.slice la xs.length lc) xs) ∧ Hid (Below w1.heap.size w1 wr)) (fun i _ => xs.length - (intOf i).toNat)
    case atStart => exact ⟨0, ma, mc, by omega, rfl, KC5.out, KM5.out, M5.out, L5.out, C5.out⟩
    case round =>
      obtain ⟨k, va, vc, hk, rfl, hKC, hKM, hMo, hLo, hBl⟩ := hrel
      clear KC5 KM5 M5 L5 C5 B5
      by_cases hlt : k < xs.length
      · have hlt' : (k : Int) < (xs.length : Int) := by omega
        obtain ⟨hp1, hp2, hp3⟩ := put_fact xs k (by omega) (HXB.out k hlt)
        have hok := stN_ok xs k
        have hsz := stN_sz xs k (by omega)
        have hln48 : (stN xs k).ch.length = 48 := hok.ln
        have HIP : Hid (∀ q, Below wr.heap.size wr q → Calls Try.prog 10 #[.agg #[.int .u32 (stN xs k).lo, .int .u32 (stN xs k).hi, .string (strOfNums (stN xs k).o)], .agg #[.slice va 48 vc], .int .i64 ((bsJ k : Nat) : Int), .int .i64 (xs.getD k 0)] q fun e w' => ∃ v', e = .returned (.tuple #[.agg #[.int .u32 (stN xs (k + 1)).lo, .int .u32 (stN xs (k + 1)).hi, .string (strOfNums (stN xs (k + 1)).o)], .agg #[v'], .bool true]) ∧ Own w' q.heap.size 3 .i64 v' (stN xs (k + 1)).ch ∧ Below q.heap.size q w') := fun q hq => by
          have hxk := HXB.out k hlt
          have := impl_mput (stN xs k).lo (stN xs k).hi (strOfNums (stN xs k).o) (.slice va 48 vc) (stN xs k).ch (bsJ k) (xs.getD k 0) q hok.wl hok.wh (by omega) (by omega) (by omega) (by rw [strOf_size]; omega) (hMo.out.below hq).vp
          rw [hp1, hp2, hp3] at this
          unfold cV at this
          exact this
        have HMK := hid (fun v q hq => impl_modelOk v (stN xs (k + 1)).ch q hq)
        rw [stN_okM xs (k + 1)] at HMK
        obtain ⟨lb, lof, rfl, hlx⟩ : ∃ b off, la = some ⟨b, off, none⟩ ∧ wr.cell? ⟨b, off + k, none⟩ = some (.int .i64 (xs.getD k 0)) := by
          obtain ⟨a, c, e, hv⟩ := hLo.out.view
          cases e
          exact hv.2 k hlt
        have HLX := hid (fun q (hq : Below wr.heap.size wr q) => (hq.cell (p := ⟨lb, lof + k, none⟩) (World.block_lt_of_cell? wr _ hlx)).trans hlx)
        have hrem : Int.tmod (k : Int) 2 = ((k % 2 : Nat) : Int) := by rw [Int.tmod_eq_emod_of_nonneg (by omega)]; omega
        have hmul : ((k % 2 : Nat) : Int) * 24 = ((bsJ k : Nat) : Int) := by unfold bsJ; omega
        have hn48 : Hid ((stN xs (k + 1)).ch.length = 48) := (stN_ok xs (k + 1)).ln
        clear hp1 hp2 hp3 hok hsz hln48 hlx
        generalize hKB : ((bsJ k : Nat) : Int) = B at *
        clear hKB
        generalize hK2 : k % 2 = K2 at *
        have hK2b : K2 ≤ 1 := by omega
        clear hK2
        have hBW : IntKind.i64.wrap B = B := by rw [IntKind.wrap_i64]; omega
        generalize xs.getD k 0 = x at *
        generalize (stN xs k).lo = lo at *
        generalize (stN xs k).hi = hi at *
        generalize strOfNums (stN xs k).o = s at *
        generalize hchk : (stN xs k).ch = ch at *
        clear hchk
        have HNX := hid (And.intro (rfl : (stN xs (k + 1)).lo = (stN xs (k + 1)).lo) (rfl : (stN xs (k + 1)).hi = (stN xs (k + 1)).hi))
        obtain ⟨RL, hRL⟩ : ∃ y, (stN xs (k + 1)).lo = y := ⟨_, rfl⟩
        obtain ⟨RH, hRH⟩ : ∃ y, (stN xs (k + 1)).hi = y := ⟨_, rfl⟩
        obtain ⟨RS, hRS⟩ : ∃ y, strOfNums (stN xs (k + 1)).o = y := ⟨_, rfl⟩
        obtain ⟨RC, hRC⟩ : ∃ y, (stN xs (k + 1)).ch = y := ⟨_, rfl⟩
        rw [hRL, hRH, hRS, hRC] at HIP
        rw [hRC] at HMK hn48
        have HRR := hid (And.intro hRL (And.intro hRH (And.intro hRS hRC)))
        clear hRL hRH hRS hRC HNX
        go_wp2_with fail
        go_cut [8, 9, 10] from 34 to 47 (fun p q r wx => ∃ A1 A2 y, p = .pointer (some ⟨A1, 0, none⟩) ∧ q = .pointer (some ⟨A2, 0, none⟩) ∧ r = .bool true ∧ wr.heap.size ≤ A1 ∧ wr.heap.size ≤ A2 ∧ Blk wx A1 [.int .u32 RL, .int .u32 RH, .string RS] 32 ∧ Blk wx A2 [y] 27 ∧ Own wx wr.heap.size 3 .i64 y RC ∧ Below wr.heap.size wr wx)
        case first =>
          refine wp_region_any (by kernel_rfl) ?_
          refine wpAny_inv (fun listed a wq => ∃ u : Nat → Value, a = { tmps := #[Value.slice ao n cap, undef, u2, Value.slice (some ⟨lb, lof, none⟩) xs.length lc, Value.pointer (some ⟨BM, 0, none⟩), Value.bool true, Value.pointer (some ⟨BC, 0, none⟩), Value.int IntKind.i64 (k : Int), u 8, u 9, u 10, undef, undef, undef, undef, undef, undef, undef, undef, Value.slice ao n cap, Value.bool false, Value.slice ao n cap, Value.slice (some ⟨lb, lof, none⟩) xs.length lc, Value.tuple #[Value.agg #[Value.slice ma 48 mc], Value.bool true], Value.tuple #[Value.agg #[Value.slice ma 48 mc], Value.bool true], Value.agg #[Value.slice ma 48 mc], Value.bool true, Value.agg #[Value.int IntKind.u32 0, Value.int IntKind.u32 4294967295, Value.string ⟨#[]⟩], Value.int IntKind.i64 (k : Int), Value.slice (some ⟨lb, lof, none⟩) xs.length lc, Value.int IntKind.i64 (xs.length : Int), Value.bool true, u32, u33, u 34, u 35, u 36, u 37, u 38, u 39, u 40, u 41, u 42, u 43, u 44, u 45, u 46, u 47, u48, u49, u50, u51, u52, u53, u54, u55, u56, undef, undef, undef, undef, undef, undef, undef, undef, undef, undef, undef, undef, undef, undef, undef, undef, undef, undef, undef, undef, undef, undef, undef, undef, undef, undef, undef, undef, undef, undef, undef, undef, undef, undef, undef, undef, undef, undef, undef, undef, undef, undef, undef, undef], defers := [] } ∧ Below wr.heap.size wr wq ∧ Facts 19 (fun j => VC [.int .i64 (k : Int), .int .i64 ((K2 : Nat) : Int), .slice (some ⟨lb, lof, none⟩) xs.length lc, .pointer (some ⟨lb, lof + k, none⟩)] (VM lo hi s (.agg #[.slice ao ch.length cap]) (.agg #[.slice va 48 vc]) B x RL RH RS true ch RC wr.heap.size) (Kg j)) Dg listed u wq) ?hpre ?hstep ?hend _ _ _ _ rfl (by decide) (fun j oj _ hl => absurd hl (by simp [Array.getD])) ⟨fun kk => if kk = 10 then u10 else (if kk = 9 then u9 else (if kk = 8 then u8 else (if kk = 47 then u47 else (if kk = 46 then u46 else (if kk = 45 then u45 else (if kk = 34 then u34 else (if kk = 44 then u44 else (if kk = 43 then u43 else (if kk = 42 then u42 else (if kk = 41 then u41 else (if kk = 40 then u40 else (if kk = 39 then u39 else (if kk = 38 then u38 else (if kk = 37 then u37 else (if kk = 36 then u36 else (if kk = 35 then u35 else (undef))))))))))))))))), rfl, (Below.refl _ _).drew, fun j hj hl => absurd hl (by simp [Array.getD])⟩
          case hpre => exact pre_of (by kernel_rfl)
          case hend =>
            rintro listed a wq hall ⟨u, rfl, hb, hF⟩
            obtain ⟨A1, e1, m1, b1⟩ : ∃ A1, u 8 = .pointer (some ⟨A1, 0, none⟩) ∧ wr.heap.size ≤ A1 ∧ Blk wq A1 [.int .u32 RL, .int .u32 RH, .string RS] 32 := hF 16 (by decide) (hall 16 (by decide))
            obtain ⟨A2, y, e2, m2, b2, o2⟩ : ∃ A2 y, u 9 = .pointer (some ⟨A2, 0, none⟩) ∧ wr.heap.size ≤ A2 ∧ Blk wq A2 [y] 27 ∧ Own wq wr.heap.size 3 .i64 y RC := hF 17 (by decide) (hall 17 (by decide))
            have e3 : u 10 = .bool true := hF 18 (by decide) (hall 18 (by decide))
            go_wp2_with fail
            go_meet
            exact ⟨A1, A2, y, e1, e2, e3, m1, m2, b1, b2, o2, hb⟩
          case hstep =>
            rintro listed a wq i o hsz ⟨u, rfl, hb, hF⟩ ho hall hun hcl
            have hin : i < 19 := (Array.getElem?_eq_some_iff.1 ho).1
            have KQ := hKC.out.below hb hKC.out.lt
            have c20 := KQ.cell (i := 0) rfl
            have c21 := KQ.cell (i := 1) rfl
            have c22 := KQ.cell (i := 2) rfl
            have MQ := hKM.out.below hb hKM.out.lt
            have m2 := MQ.cell (i := 0) rfl
            have lx := HLX.out wq hb
            have BE : Hid (∀ (wz : World), Below wq.heap.size wq wz → ∀ j (z : Value), j < 19 → (fun j => VC [.int .i64 (k : Int), .int .i64 ((K2 : Nat) : Int), .slice (some ⟨lb, lof, none⟩) xs.length lc, .pointer (some ⟨lb, lof + k, none⟩)] (VM lo hi s (.agg #[.slice ao ch.length cap]) (.agg #[.slice va 48 vc]) B x RL RH RS true ch RC wr.heap.size) (Kg j)) j z wq → (fun j => VC [.int .i64 (k : Int), .int .i64 ((K2 : Nat) : Int), .slice (some ⟨lb, lof, none⟩) xs.length lc, .pointer (some ⟨lb, lof + k, none⟩)] (VM lo hi s (.agg #[.slice ao ch.length cap]) (.agg #[.slice va 48 vc]) B x RL RH RS true ch RC wr.heap.size) (Kg j)) j z wz) := fun wz hbz j z _ h => VC.lift (fun k v h => VM.below hbz k v h) _ _ h
            have BZ : Hid (∀ (wz : World), Below wq.heap.size wq wz → Below wr.heap.size wr wz) := fun wz hbz => hb.trans (hbz.mono hb.size)
            have ST : Hid (i ≠ 14 → i ≠ 15 → i ≠ 16 → i ≠ 17 → ∀ (wz : World) (v : Value), Below wq.heap.size wq wz → (fun j => VC [.int .i64 (k : Int), .int .i64 ((K2 : Nat) : Int), .slice (some ⟨lb, lof, none⟩) xs.length lc, .pointer (some ⟨lb, lof + k, none⟩)] (VM lo hi s (.agg #[.slice ao ch.length cap]) (.agg #[.slice va 48 vc]) B x RL RH RS true ch RC wr.heap.size) (Kg j)) i v wz → Below wr.heap.size wr wz ∧ Facts 19 (fun j => VC [.int .i64 (k : Int), .int .i64 ((K2 : Nat) : Int), .slice (some ⟨lb, lof, none⟩) xs.length lc, .pointer (some ⟨lb, lof + k, none⟩)] (VM lo hi s (.agg #[.slice ao ch.length cap]) (.agg #[.slice va 48 vc]) B x RL RH RS true ch RC wr.heap.size) (Kg j)) Dg (listed.setIfInBounds i true) (upd u (Dg i) v) wz) := fun h1 h2 h3 h4 wz v hbz hv => ⟨BZ.out wz hbz, hF.step i v (fun j hj hne _ => Dg_ne ⟨i, hin⟩ ⟨j, hj⟩ (fun e => hne (congrArg Fin.val e)) h1 h2 h3 h4) (BE.out wz hbz) hv⟩
            obtain rfl | rfl | rfl | rfl | rfl | rfl | rfl | rfl | rfl | rfl | rfl | rfl | rfl | rfl | rfl | rfl | rfl | rfl | rfl : i = 0 ∨ i = 1 ∨ i = 2 ∨ i = 3 ∨ i = 4 ∨ i = 5 ∨ i = 6 ∨ i = 7 ∨ i = 8 ∨ i = 9 ∨ i = 10 ∨ i = 11 ∨ i = 12 ∨ i = 13 ∨ i = 14 ∨ i = 15 ∨ i = 16 ∨ i = 17 ∨ i = 18 := by omega
            · cases ho
              refine wpOp_step rfl (fun K hK => ?_)
              go_simp
              refine hK _ _ ⟨upd u 35 (.agg #[.int .u32 lo, .int .u32 hi, .string s]), ?_, ST.out (by decide) (by decide) (by decide) (by decide) _ _ (Below.refl _ _) (rfl)⟩
              simp [upd]
            · cases ho
              refine wpOp_step rfl (fun K hK => ?_)
              go_simp
              refine hK _ _ ⟨upd u 36 ((.agg #[.slice va 48 vc])), ?_, ST.out (by decide) (by decide) (by decide) (by decide) _ _ (Below.refl _ _) (rfl)⟩
              simp [upd]
            · cases ho
              refine wpOp_step rfl (fun K hK => ?_)
              go_simp
              refine hK _ _ ⟨upd u 37 (.int .i64 (k : Int)), ?_, ST.out (by decide) (by decide) (by decide) (by decide) _ _ (Below.refl _ _) (rfl)⟩
              simp [upd]
            · cases ho
              have f2 : u 37 = .int .i64 (k : Int) := hF 2 (by decide) (hall ⟨2, .data⟩ (by simp) rfl)
              refine wpOp_step rfl (fun K hK => ?_)
              simp only [f2]
              go_simp
              refine hK _ _ ⟨upd u 38 (.int .i64 ((K2 : Nat) : Int)), ?_, ST.out (by decide) (by decide) (by decide) (by decide) _ _ (Below.refl _ _) (rfl)⟩
              simp [upd, f2]
            · cases ho
              have f3 : u 38 = .int .i64 ((K2 : Nat) : Int) := hF 3 (by decide) (hall ⟨3, .data⟩ (by simp) rfl)
              refine wpOp_step rfl (fun K hK => ?_)
              simp only [f3]
              go_simp
              refine hK _ _ ⟨upd u 39 (.int .i64 B), ?_, ST.out (by decide) (by decide) (by decide) (by decide) _ _ (Below.refl _ _) (rfl)⟩
              simp [upd, f3]
            · cases ho
              refine wpOp_step rfl (fun K hK => ?_)
              go_simp
              refine hK _ _ ⟨upd u 40 (.slice (some ⟨lb, lof, none⟩) xs.length lc), ?_, ST.out (by decide) (by decide) (by decide) (by decide) _ _ (Below.refl _ _) (rfl)⟩
              simp [upd]
            · cases ho
              refine wpOp_step rfl (fun K hK => ?_)
              go_simp
              refine hK _ _ ⟨upd u 41 (.int .i64 (k : Int)), ?_, ST.out (by decide) (by decide) (by decide) (by decide) _ _ (Below.refl _ _) (rfl)⟩
              simp [upd]
            · cases ho
              have f5 : u 40 = .slice (some ⟨lb, lof, none⟩) xs.length lc := hF 5 (by decide) (hall ⟨5, .data⟩ (by simp) rfl)
              have f6 : u 41 = .int .i64 (k : Int) := hF 6 (by decide) (hall ⟨6, .data⟩ (by simp) rfl)
              refine wpOp_step rfl (fun K hK => ?_)
              simp only [f5, f6]
              go_simp
              refine hK _ _ ⟨upd u 42 (.pointer (some ⟨lb, lof + k, none⟩)), ?_, ST.out (by decide) (by decide) (by decide) (by decide) _ _ (Below.refl _ _) (rfl)⟩
              simp [upd, f5, f6]
            · cases ho
              have f7 : u 42 = .pointer (some ⟨lb, lof + k, none⟩) := hF 7 (by decide) (hall ⟨7, .data⟩ (by simp) rfl)
              refine wpOp_step rfl (fun K hK => ?_)
              simp only [f7]
              go_simp
              refine hK _ _ ⟨upd u 43 (.int .i64 x), ?_, ST.out (by decide) (by decide) (by decide) (by decide) _ _ (Below.refl _ _) (rfl)⟩
              simp [upd, f7]
            · cases ho
              have f0 : u 35 = .agg #[.int .u32 lo, .int .u32 hi, .string s] := hF 0 (by decide) (hall ⟨0, .data⟩ (by simp) rfl)
              have f1 : u 36 = (.agg #[.slice va 48 vc]) := hF 1 (by decide) (hall ⟨1, .data⟩ (by simp) rfl)
              have f4 : u 39 = .int .i64 B := hF 4 (by decide) (hall ⟨4, .data⟩ (by simp) rfl)
              have f8 : u 43 = .int .i64 x := hF 8 (by decide) (hall ⟨8, .data⟩ (by simp) rfl)
              refine wpOp_step rfl (fun K hK => ?_)
              simp only [f0, f1, f4, f8]
              go_simp
              go_wp2_with (go_at_call 10; refine (HIP.out wq hb).mono ?_; rintro e wz ⟨y, rfl, oy, hbz⟩)
              first | refine hK _ _ ⟨upd u 44 (.tuple #[.agg #[.int .u32 RL, .int .u32 RH, .string RS], .agg #[y], .bool true]), ?_, ST.out (by decide) (by decide) (by decide) (by decide) _ _ hbz ⟨y, rfl, oy.lower hb.size⟩⟩ | refine ⟨upd u 44 (.tuple #[.agg #[.int .u32 RL, .int .u32 RH, .string RS], .agg #[y], .bool true]), ?_, ST.out (by decide) (by decide) (by decide) (by decide) _ _ hbz ⟨y, rfl, oy.lower hb.size⟩⟩
              simp [upd, f0, f1, f4, f8]
            · cases ho
              obtain ⟨y9, f9, o9⟩ : ∃ y, u 44 = .tuple #[.agg #[.int .u32 RL, .int .u32 RH, .string RS], .agg #[y], .bool true] ∧ Own wq wr.heap.size 3 .i64 y RC := hF 9 (by decide) (hall ⟨9, .data⟩ (by simp) rfl)
              refine wpOp_step rfl (fun K hK => ?_)
              simp only [f9]
              go_simp
              refine hK _ _ ⟨upd u 34 (.tuple #[.agg #[.int .u32 RL, .int .u32 RH, .string RS], .agg #[y9], .bool true]), ?_, ST.out (by decide) (by decide) (by decide) (by decide) _ _ (Below.refl _ _) ⟨y9, rfl, o9⟩⟩
              simp [upd, f9]
            · cases ho
              obtain ⟨y10, f10, o10⟩ : ∃ y, u 34 = .tuple #[.agg #[.int .u32 RL, .int .u32 RH, .string RS], .agg #[y], .bool true] ∧ Own wq wr.heap.size 3 .i64 y RC := hF 10 (by decide) (hall ⟨10, .data⟩ (by simp) rfl)
              refine wpOp_step rfl (fun K hK => ?_)
              simp only [f10]
              go_simp
              refine hK _ _ ⟨upd u 45 (.agg #[.int .u32 RL, .int .u32 RH, .string RS]), ?_, ST.out (by decide) (by decide) (by decide) (by decide) _ _ (Below.refl _ _) (rfl)⟩
              simp [upd, f10]
            · cases ho
              obtain ⟨y10, f10, o10⟩ : ∃ y, u 34 = .tuple #[.agg #[.int .u32 RL, .int .u32 RH, .string RS], .agg #[y], .bool true] ∧ Own wq wr.heap.size 3 .i64 y RC := hF 10 (by decide) (hall ⟨10, .data⟩ (by simp) rfl)
              refine wpOp_step rfl (fun K hK => ?_)
              simp only [f10]
              go_simp
              refine hK _ _ ⟨upd u 46 (.agg #[y10]), ?_, ST.out (by decide) (by decide) (by decide) (by decide) _ _ (Below.refl _ _) ⟨y10, rfl, o10⟩⟩
              simp [upd, f10]
            · cases ho
              obtain ⟨y10, f10, o10⟩ : ∃ y, u 34 = .tuple #[.agg #[.int .u32 RL, .int .u32 RH, .string RS], .agg #[y], .bool true] ∧ Own wq wr.heap.size 3 .i64 y RC := hF 10 (by decide) (hall ⟨10, .data⟩ (by simp) rfl)
              refine wpOp_step rfl (fun K hK => ?_)
              simp only [f10]
              go_simp
              refine hK _ _ ⟨upd u 47 (.bool true), ?_, ST.out (by decide) (by decide) (by decide) (by decide) _ _ (Below.refl _ _) (rfl)⟩
              simp [upd, f10]
            · cases ho
              refine wpOp_step rfl (fun K hK => ?_)
              go_simp
              have hno : ∀ j, j < 19 → j ≠ 14 → listed.getD j false = true → Dg j ≠ Dg 14 := fun j hj hne hl => by
                refine Dg_ne11 ⟨j, hj⟩ hne ?_
                intro e
                have e : j = 16 := e
                subst e
                have := hcl 16 _ rfl hl ⟨14, .data⟩ (by simp) rfl
                rw [Array.getD] at this hun
                split at this
                · rename_i h; rw [dif_pos h] at hun; rw [this] at hun; cases hun
                · cases this
              have hbz : Below wq.heap.size wq (wq.alloc (.cells #[.int .u32 0, .int .u32 0, .string ⟨#[]⟩] 32)) := (Below.refl _ _).alloc (Nat.le_refl _) _
              refine hK _ _ ⟨upd u 8 (.pointer (some ⟨wq.heap.size, 0, none⟩)), ?_, BZ.out _ hbz, hF.step 14 _ hno (BE.out _ hbz) ⟨_, _, _, _, rfl, hb.size, Blk.new wq [.int .u32 0, .int .u32 0, .string ⟨#[]⟩] 32⟩⟩
              simp [upd]
            · cases ho
              refine wpOp_step rfl (fun K hK => ?_)
              go_simp
              have hno : ∀ j, j < 19 → j ≠ 15 → listed.getD j false = true → Dg j ≠ Dg 15 := fun j hj hne hl => by
                refine Dg_ne12 ⟨j, hj⟩ hne ?_
                intro e
                have e : j = 17 := e
                subst e
                have := hcl 17 _ rfl hl ⟨15, .data⟩ (by simp) rfl
                rw [Array.getD] at this hun
                split at this
                · rename_i h; rw [dif_pos h] at hun; rw [this] at hun; cases hun
                · cases this
              have hbz : Below wq.heap.size wq (wq.alloc (.cells #[.slice none 0 0] 27)) := (Below.refl _ _).alloc (Nat.le_refl _) _
              refine hK _ _ ⟨upd u 9 (.pointer (some ⟨wq.heap.size, 0, none⟩)), ?_, BZ.out _ hbz, hF.step 15 _ hno (BE.out _ hbz) ⟨_, _, rfl, hb.size, Blk.new wq [.slice none 0 0] 27⟩⟩
              simp [upd]
            · cases ho
              obtain ⟨A14, p14, q14, r14, f14, m14, b14⟩ : ∃ A a b c, u 8 = .pointer (some ⟨A, 0, none⟩) ∧ wr.heap.size ≤ A ∧ Blk wq A [a, b, c] 32 := hF 14 (by decide) (hall ⟨14, .data⟩ (by simp) rfl)
              have f11 : u 45 = .agg #[.int .u32 RL, .int .u32 RH, .string RS] := hF 11 (by decide) (hall ⟨11, .data⟩ (by simp) rfl)
              have c0 := b14.cell (i := 0) rfl
              have c1 := b14.cell (i := 1) rfl
              have c2 := b14.cell (i := 2) rfl
              have g0 := b14.free 0
              have g1 := b14.free 1
              have g2 := b14.free 2
              refine wpOp_step rfl (fun K hK => ?_)
              simp only [f14, f11]
              go_simp
              refine hK _ _ ⟨u, ?_, ?_, hF.keep 16 (fun j x _ h => VC.lift (fun k v h => VM.st32 b14 k v h) _ _ h) ?_⟩
              · simp [f14, f11]
              · exact ((hb.setCell (p := ⟨A14, 0, none⟩) m14 _).setCell (p := ⟨A14, 1, none⟩) m14 _).setCell (p := ⟨A14, 2, none⟩) m14 _
              · exact ⟨A14, f14, m14, ((b14.set 0 _).set 1 _).set 2 _⟩
            · cases ho
              obtain ⟨A15, p15, f15, m15, b15⟩ : ∃ A a, u 9 = .pointer (some ⟨A, 0, none⟩) ∧ wr.heap.size ≤ A ∧ Blk wq A [a] 27 := hF 15 (by decide) (hall ⟨15, .data⟩ (by simp) rfl)
              obtain ⟨y12, f12, o12⟩ : ∃ y, u 46 = .agg #[y] ∧ Own wq wr.heap.size 3 .i64 y RC := hF 12 (by decide) (hall ⟨12, .data⟩ (by simp) rfl)
              obtain ⟨ya, yc, hy⟩ := o12.shape
              subst hy
              have c0 := b15.cell (i := 0) rfl
              have g0 := b15.free 0
              refine wpOp_step rfl (fun K hK => ?_)
              simp only [f15, f12]
              go_simp
              refine hK _ _ ⟨u, ?_, ?_, hF.keep 17 (fun j x _ h => VC.lift (fun k v h => VM.st27 b15 o12 k v h) _ _ h) ?_⟩
              · simp [f15, f12]
              · exact hb.setCell (p := ⟨A15, 0, none⟩) m15 _
              · exact ⟨A15, _, f15, m15, b15.set 0 _, o12.typed b15 (by decide) _⟩
            · cases ho
              have f13 : u 47 = .bool true := hF 13 (by decide) (hall ⟨13, .data⟩ (by simp) rfl)
              refine wpOp_step rfl (fun K hK => ?_)
              simp only [f13]
              go_simp
              refine hK _ _ ⟨upd u 10 (.bool true), ?_, ST.out (by decide) (by decide) (by decide) (by decide) _ _ (Below.refl _ _) (rfl)⟩
              simp [upd, f13]
        case rest =>
          obtain ⟨A1, A2, y, rfl, rfl, rfl, hA1, hA2, hb1, hb2, ho, hbx⟩ := hcut
          generalize hwc : wc = w6 at *
          clear hwc
          obtain ⟨ya, yc, hyy⟩ := ho.shape
          rw [hn48.out] at hyy
          subst hyy
          have KC6 := hid (hKC.out.below hbx hKC.out.lt)
          have KM6 := hid (hKM.out.below hbx hKM.out.lt)
          have L6 := hid (hLo.out.below hbx)
          have BL6 := hid (hBl.out.trans (hbx.mono hBl.out.size))
          have Y6 := hid ho
          have NX6 := hid hb1
          have LR6 := hid hb2
          have hlC : BC < wr.heap.size := hKC.out.lt
          have hlM : BM < wr.heap.size := hKM.out.lt
          have x1 : ¬ A1 = BC := by omega
          have x2 : ¬ A1 = BM := by omega
          have x3 : ¬ A2 = BC := by omega
          have x4 : ¬ A2 = BM := by omega
          have x1' : ¬ BC = A1 := fun e => x1 e.symm
          have x2' : ¬ BM = A1 := fun e => x2 e.symm
          have x3' : ¬ BC = A2 := fun e => x3 e.symm
          have x4' : ¬ BM = A2 := fun e => x4 e.symm
          have HSW := hid hBl.out.size
          have lr6 := hb2.cell (i := 0) rfl
          clear ho hb1 hb2 hbx hKC hKM hMo hLo hBl hA1 hA2 HIP HLX hrem hmul hBW hK2b
          go_wp2_with fail
          refine (HMK.out _ w6 Y6.out.vw).mono ?_
          rintro e w7 ⟨rfl, hb7⟩
          have KC7 := hid (KC6.out.below hb7 KC6.out.lt)
          have KM7 := hid (KM6.out.below hb7 KM6.out.lt)
          have L7 := hid (L6.out.below hb7)
          have BL7 := hid (BL6.out.trans (hb7.mono BL6.out.size))
          have Y7 := hid (Y6.out.below hb7)
          have NX7 := hid (NX6.out.below hb7 NX6.out.lt)
          have LR7 := hid (LR6.out.below hb7 LR6.out.lt)
          clear hb7 KC6 KM6 L6 BL6 Y6 NX6 LR6 lr6
          have n0 := NX7.out.cell (i := 0) rfl
          have n1 := NX7.out.cell (i := 1) rfl
          have n2 := NX7.out.cell (i := 2) rfl
          have l0 := LR7.out.cell (i := 0) rfl
          have c0 := KC7.out.cell (i := 0) rfl
          have c1 := KC7.out.cell (i := 1) rfl
          have c2 := KC7.out.cell (i := 2) rfl
          have f0 := KC7.out.free 0
          have f1 := KC7.out.free 1
          have f2 := KC7.out.free 2
          have m0 := KM7.out.cell (i := 0) rfl
          have g0 := KM7.out.free 0
          have q1 := KC7.out.set 0 (.int .u32 RL)
          have q2 := q1.set 1 (.int .u32 RH)
          have q3 := q2.set 2 (.string RS)
          simp only [List.set_cons_zero, List.set_cons_succ] at q1 q2 q3
          have p3 := ((KM7.out.other (a := ⟨BC, 0, none⟩) hMC1.out (.int .u32 RL)).other (a := ⟨BC, 1, none⟩) hMC1.out (.int .u32 RH)).other (a := ⟨BC, 2, none⟩) hMC1.out (.string RS)
          have QC := hid (q3.other (a := ⟨BM, 0, none⟩) hCM1.out (.slice ya 48 yc))
          have QM := hid (p3.set 0 (.slice ya 48 yc))
          have QO := hid ((((Y7.out.typed KC7.out (by decide) (i := 0) (.int .u32 RL)).typed q1 (by decide) (i := 1) (.int .u32 RH)).typed q2 (by decide) (i := 2) (.string RS)).typed p3 (by decide) (i := 0) (.slice ya 48 yc))
          have QL := hid ((((L7.out.typed KC7.out (by decide) (i := 0) (.int .u32 RL)).typed q1 (by decide) (i := 1) (.int .u32 RH)).typed q2 (by decide) (i := 2) (.string RS)).typed p3 (by decide) (i := 0) (.slice ya 48 yc))
          have QB := hid ((((BL7.out.setCell (p := ⟨BC, 0, none⟩) HW1.out.2 (.int .u32 RL)).setCell (p := ⟨BC, 1, none⟩) HW1.out.2 (.int .u32 RH)).setCell (p := ⟨BC, 2, none⟩) HW1.out.2 (.string RS)).setCell (p := ⟨BM, 0, none⟩) HW1.out.1 (.slice ya 48 yc))
          clear q1 q2 q3 p3 KC7 KM7 L7 BL7 Y7 NX7 LR7
          go_wp2_with fail
          generalize (((w7.setCell ⟨BC, 0, none⟩ (.int .u32 RL)).setCell ⟨BC, 1, none⟩ (.int .u32 RH)).setCell ⟨BC, 2, none⟩ (.string RS)).setCell ⟨BM, 0, none⟩ (.slice ya 48 yc) = w8 at *
          clear n0 n1 n2 l0 c0 c1 c2 f0 f1 f2 m0 g0
          go_roundw
          case rel => exact ⟨k + 1, ya, yc, by omega, by go_num, by rw [HRR.out.1, HRR.out.2.1, HRR.out.2.2.1]; exact QC.out, QM.out, by rw [HRR.out.2.2.2]; exact QO.out.lower HSW.out, QL.out, QB.out⟩
          case measure => simp [intOf]; omega
      · obtain rfl : k = xs.length := by omega
        clear hlt hk
        have hst := stN_ok xs xs.length
        have hsz := stN_sz xs xs.length hx60
        have HEND := hid (fun q => impl_end (stN xs xs.length).lo (stN xs xs.length).hi (strOfNums (stN xs xs.length).o) q hst.wl (by rw [strOf_size]; omega))
        rw [← strOf_app] at HEND
        have htl : (strOfNums (txN xs xs.length)).size ≤ 1048576 := by
          rw [strOf_size]
          unfold txN
          rw [List.length_append]
          simp [wordBytes]
          omega
        have HRS := hid (fun q => impl_rstart (strOfNums (txN xs xs.length)) q htl)
        rw [code0_tx xs xs.length hx60] at HRS
        have HTX : (stN xs xs.length).o ++ wordBytes (stN xs xs.length).lo = txN xs xs.length := rfl
        rw [HTX] at HEND
        unfold cV at HEND
        unfold rV at HRS
        clear HTX hst hsz
        go_wp2_with fail
        refine (HMS.out wr).mono ?_
        rintro e w6 ⟨vn, rfl, ho6, hb6⟩
        obtain ⟨na, nc, hvn⟩ := ho6.shape
        replace hvn : vn = .slice na 48 nc := hvn
        subst hvn
        have NN := hid ((Below.refl w6.heap.size w6).alloc (Nat.le_refl _) (.cells #[.slice na 48 nc] 27))
        have C6 := hid (hb6.trans (NN.out.mono hb6.size))
        have N7 := hid (ho6.alloc (.cells #[.slice na 48 nc] 27))
        have KN7 := hid (Blk.new w6 [.slice na 48 nc] 27)
        have KC7 := hid (hKC.out.below C6.out hKC.out.lt)
        have KM7 := hid (hKM.out.below C6.out hKM.out.lt)
        have M7 := hid (hMo.out.below C6.out)
        have L7 := hid (hLo.out.below C6.out)
        have BL7 := hid (hBl.out.trans (C6.out.mono hBl.out.size))
        have HSW := hid hBl.out.size
        have HS6 := hid hb6.size
        have hlC : BC < wr.heap.size := hKC.out.lt
        have hlM : BM < wr.heap.size := hKM.out.lt
        have k6 := hKC.out.below hb6 hKC.out.lt
        have k0 := k6.cell (i := 0) rfl
        have k1 := k6.cell (i := 1) rfl
        have k2 := k6.cell (i := 2) rfl
        have hlt6 : BC < w6.heap.size := k6.lt
        have hne6 : ¬ BC = w6.heap.size := Nat.ne_of_lt hlt6
        have hne6' : ¬ w6.heap.size = BC := fun e => hne6 e.symm
        have c0 := KC7.out.cell (i := 0) rfl
        have c1 := KC7.out.cell (i := 1) rfl
        have c2 := KC7.out.cell (i := 2) rfl
        clear k6 ho6 hb6 NN C6 hKC hKM hMo hLo hBl
        go_wp2_with fail
        refine (HEND.out _).mono ?_
        generalize w6.alloc (.cells #[.slice na 48 nc] 27) = w7 at *
        have HBN := hid (show BC < w6.heap.size ∧ BM < w6.heap.size from ⟨hlt6, by have := HS6.out; omega⟩)
        generalize w6.heap.size = BN at *
        rintro e w8 ⟨rfl, hb8⟩
        have N8 := hid (N7.out.below hb8)
        have KN8 := hid (KN7.out.below hb8 KN7.out.lt)
        have KM8 := hid (KM7.out.below hb8 KM7.out.lt)
        have M8 := hid (M7.out.below hb8)
        have L8 := hid (L7.out.below hb8)
        have BL8 := hid (BL7.out.trans (hb8.mono BL7.out.size))
        clear hb8 N7 KN7 KC7 KM7 M7 L7 BL7 k0 k1 k2 hlt6 hne6 hne6' c0 c1 c2
        go_wp2_with fail
        refine (HRS.out w8).mono ?_
        rintro e w9 ⟨rfl, hb9⟩
        have NR := hid ((Below.refl w9.heap.size w9).alloc (Nat.le_refl _) (.cells #[.int .u32 0, .int .u32 4294967295, .int .u32 (wd (txN xs xs.length) 0), .string (strOfNums (txN xs xs.length)), .int .i64 4] 38))
        have C9 := hid (hb9.trans (NR.out.mono hb9.size))
        have N10 := hid (N8.out.below C9.out)
        have KN10 := hid (KN8.out.below C9.out KN8.out.lt)
        have KM10 := hid (KM8.out.below C9.out KM8.out.lt)
        have M10 := hid (M8.out.below C9.out)
        have L10 := hid (L8.out.below C9.out)
        have BL10 := hid (BL8.out.trans (C9.out.mono BL8.out.size))
        have KR10 := hid (Blk.new w9 [.int .u32 0, .int .u32 4294967295, .int .u32 (wd (txN xs xs.length) 0), .string (strOfNums (txN xs xs.length)), .int .i64 4] 38)
        have HBR := hid (show BN < w9.heap.size ∧ BM < w9.heap.size from ⟨Nat.lt_of_lt_of_le KN8.out.lt hb9.size, Nat.lt_of_lt_of_le KM8.out.lt hb9.size⟩)
        clear hb9 NR C9 N8 KN8 KM8 M8 L8 BL8
        go_wp2_with fail
        generalize w9.alloc (.cells #[.int .u32 0, .int .u32 4294967295, .int .u32 (wd (txN xs xs.length) 0), .string (strOfNums (txN xs xs.length)), .int .i64 4] 38) = w10 at *
        generalize w9.heap.size = BR at *
        have HWN := hid (show w1.heap.size ≤ BN ∧ w1.heap.size ≤ BR by have h1 := HBN.out; have h2 := HBR.out; have h3 := HW1.out; omega)
        go_loopw [14] (fun i wr => ∃ (k : Nat) (vb : Option Addr) (vd : Nat), k ≤ xs.length ∧ i = .int .i64 k ∧ Hid (Blk wr BR [.int .u32 (stN xs k).lo, .int .u32 (stN xs k).hi, .int .u32 (wd (txN xs xs.length) (stN xs k).o.length), .string (strOfNums (txN xs xs.length)), .int .i64 (((stN xs k).o.length + 4 : Nat) : Int)] 38) ∧ Hid (Blk wr BN [.slice vb 48 vd] 27) ∧ Hid (Own wr w1.heap.size 3 .i64 (.slice vb 48 vd) (stN xs k).ch) ∧ Hid (Own wr w.heap.size 3 .i64 (.slice la xs.length lc) xs) ∧ Hid (Blk wr BM [.slice va 48 vc] 27) ∧ Hid (Own wr w1.heap.size 3 .i64 (.slice va 48 vc) (stN xs xs.length).ch) ∧ Hid (Below w1.heap.size w1 wr)) (fun i _ => xs.length - (intOf i).toNat)
        case atStart => exact ⟨0, na, nc, by omega, rfl, KR10.out, KN10.out, N10.out.lower HSW.out, L10.out, KM10.out, M10.out, BL10.out⟩
        case round =>
          obtain ⟨k, vb, vd, hk, rfl, hKR, hKN, hNo, hLo, hKM, hMo, hBl⟩ := hrel
          clear KR10 KN10 N10 L10 KM10 M10 BL10
          by_cases hlt : k < xs.length
          · have hlt' : (k : Int) < (xs.length : Int) := by omega
            obtain ⟨sw, hg1, hg2⟩ := get_fact xs xs.length k hx60 hlt (HXB.out k hlt)
            have hok := stN_ok xs k
            have hsz := stN_sz xs k (by omega)
            have hln48 : (stN xs k).ch.length = 48 := hok.ln
            have HIP : Hid (∀ q, Below wr.heap.size wr q → Calls Try.prog 14 #[.agg #[.int .u32 (stN xs k).lo, .int .u32 (stN xs k).hi, .int .u32 (wd (txN xs xs.length) (stN xs k).o.length), .string (strOfNums (txN xs xs.length)), .int .i64 (((stN xs k).o.length + 4 : Nat) : Int)], .agg #[.slice vb 48 vd], .int .i64 ((bsJ k : Nat) : Int)] q fun e w' => ∃ v', e = .returned (.tuple #[.agg #[.int .u32 (stN xs (k + 1)).lo, .int .u32 (stN xs (k + 1)).hi, .int .u32 (wd (txN xs xs.length) (stN xs (k + 1)).o.length), .string (strOfNums (txN xs xs.length)), .int .i64 (((stN xs (k + 1)).o.length + 4 : Nat) : Int)], .agg #[v'], .int .i64 (xs.getD k 0), .bool true]) ∧ Own w' q.heap.size 3 .i64 v' (stN xs (k + 1)).ch ∧ Below q.heap.size q w') := fun q hq => by
              have := impl_mget (stN xs k).lo (stN xs k).hi (wd (txN xs xs.length) (stN xs k).o.length) (strOfNums (txN xs xs.length)) (((stN xs k).o.length + 4 : Nat) : Int) (.slice vb 48 vd) (stN xs k).ch (bsJ k) q hok.wl hok.wh (wd_word (txN_bys xs xs.length hx60) _) (by omega) (hNo.out.below hq).vp
              rw [hg1] at this
              refine this.mono fun e w' h => ?_
              obtain ⟨v', he, ho, hb⟩ := h
              refine ⟨v', ?_, ho, hb⟩
              rw [he, ← hg2]
              rfl
            obtain ⟨lb, lof, rfl, hlx⟩ : ∃ b off, la = some ⟨b, off, none⟩ ∧ wr.cell? ⟨b, off + k, none⟩ = some (.int .i64 (xs.getD k 0)) := by
              obtain ⟨a, c, e, hv⟩ := hLo.out.view
              cases e
              exact hv.2 k hlt
            have HLX := hid (fun q (hq : Below wr.heap.size wr q) => (hq.cell (p := ⟨lb, lof + k, none⟩) (World.block_lt_of_cell? wr _ hlx)).trans hlx)
            have hrem : Int.tmod (k : Int) 2 = ((k % 2 : Nat) : Int) := by rw [Int.tmod_eq_emod_of_nonneg (by omega)]; omega
            have hmul : ((k % 2 : Nat) : Int) * 24 = ((bsJ k : Nat) : Int) := by unfold bsJ; omega
            have hn48 : Hid ((stN xs (k + 1)).ch.length = 48) := (stN_ok xs (k + 1)).ln
            clear hg1 hg2 hok hsz hln48 hlx
            generalize hKB : ((bsJ k : Nat) : Int) = B at *
            clear hKB
            generalize hK2 : k % 2 = K2 at *
            have hK2b : K2 ≤ 1 := by omega
            clear hK2
            have hBW : IntKind.i64.wrap B = B := by rw [IntKind.wrap_i64]; omega
            obtain ⟨RC, hRC⟩ : ∃ y, (stN xs (k + 1)).ch = y := ⟨_, rfl⟩
            obtain ⟨RL, hRL⟩ : ∃ y, (stN xs (k + 1)).lo = y := ⟨_, rfl⟩
            obtain ⟨RH, hRH⟩ : ∃ y, (stN xs (k + 1)).hi = y := ⟨_, rfl⟩
            obtain ⟨RO, hRO⟩ : ∃ y, wd (txN xs xs.length) (stN xs (k + 1)).o.length = y := ⟨_, rfl⟩
            obtain ⟨RI, hRI⟩ : ∃ y, (((stN xs (k + 1)).o.length + 4 : Nat) : Int) = y := ⟨_, rfl⟩
            rw [hRL, hRH, hRO, hRI, hRC] at HIP
            rw [hRC] at hn48
            have HRR := hid (And.intro hRL (And.intro hRH (And.intro hRO (And.intro hRI hRC))))
            clear hRL hRH hRO hRI hRC
            generalize xs.getD k 0 = NN at *
            have hNNe : (NN != NN) = false := by simp
            generalize (stN xs k).lo = lo at *
            generalize (stN xs k).hi = hi at *
            generalize wd (txN xs xs.length) (stN xs k).o.length = co at *
            generalize (((stN xs k).o.length + 4 : Nat) : Int) = i at *
            generalize hchk : (stN xs k).ch = ch at *
            clear hchk
            obtain ⟨t, ht⟩ : ∃ y, strOfNums (txN xs xs.length) = y := ⟨_, rfl⟩
            rw [ht] at HIP hKR
            have HTT := hid ht
            clear ht
            go_upto_region 19 with fail
            go_cut [15, 16, 17, 18] from 70 to 80 (fun p q r o wx => ∃ A1 A2 y, p = .pointer (some ⟨A1, 0, none⟩) ∧ q = .pointer (some ⟨A2, 0, none⟩) ∧ r = .int .i64 NN ∧ o = .bool true ∧ wr.heap.size ≤ A1 ∧ wr.heap.size ≤ A2 ∧ Blk wx A1 [.int .u32 RL, .int .u32 RH, .int .u32 RO, .string t, .int .i64 RI] 38 ∧ Blk wx A2 [y] 27 ∧ Own wx wr.heap.size 3 .i64 y RC ∧ Below wr.heap.size wr wx)
            case first =>
              have c0 := hKR.out.cell (i := 0) rfl
              have c1 := hKR.out.cell (i := 1) rfl
              have c2 := hKR.out.cell (i := 2) rfl
              have c3 := hKR.out.cell (i := 3) rfl
              have c4 := hKR.out.cell (i := 4) rfl
              have m0 := hKN.out.cell (i := 0) rfl
              go_wp2_with fail
              refine (HIP.out wr (Below.refl _ _)).mono ?_
              rintro e w11 ⟨vy, rfl, hoy, hby⟩
              obtain ⟨ya, yc, hyy⟩ := hoy.shape
              rw [hn48.out] at hyy
              subst hyy
              obtain ⟨b1, b2, b3⟩ := new_two w11 [.int .u32 RL, .int .u32 RH, .int .u32 RO, .string t, .int .i64 RI] [.slice ya 48 yc] 38 27
              have B1h := hid b1
              have B2h := hid b2
              have B3h := hid b3
              have HOY := hid hoy
              have HBY := hid hby
              clear b1 b2 b3 hoy hby
              go_wp2_with fail
              go_meet
              exact ⟨_, _, _, rfl, rfl, rfl, rfl, HBY.out.size, Nat.le_succ_of_le HBY.out.size, B1h.out, B2h.out, HOY.out.below B3h.out, HBY.out.trans (B3h.out.mono HBY.out.size)⟩
            case rest =>
              obtain ⟨A1, A2, y, rfl, rfl, rfl, rfl, hA1, hA2, hb1, hb2, ho, hbx⟩ := hcut
              generalize hwc : wc = w7 at *
              clear hwc
              obtain ⟨ya, yc, hyy⟩ := ho.shape
              rw [hn48.out] at hyy
              subst hyy
              have KR7 := hid (hKR.out.below hbx hKR.out.lt)
              have KN7 := hid (hKN.out.below hbx hKN.out.lt)
              have KM7 := hid (hKM.out.below hbx hKM.out.lt)
              have M7 := hid (hMo.out.below hbx)
              have L7 := hid (hLo.out.below hbx)
              have BL7 := hid (hBl.out.trans (hbx.mono hBl.out.size))
              have Y7 := hid ho
              have NX7 := hid hb1
              have LR7 := hid hb2
              have hlR : BR < wr.heap.size := hKR.out.lt
              have hlN : BN < wr.heap.size := hKN.out.lt
              have x1 : ¬ A1 = BR := by omega
              have x2 : ¬ A1 = BN := by omega
              have x3 : ¬ A2 = BR := by omega
              have x4 : ¬ A2 = BN := by omega
              have x1' : ¬ BR = A1 := fun e => x1 e.symm
              have x2' : ¬ BN = A1 := fun e => x2 e.symm
              have x3' : ¬ BR = A2 := fun e => x3 e.symm
              have x4' : ¬ BN = A2 := fun e => x4 e.symm
              have HSW2 := hid hBl.out.size
              have lx := HLX.out w7 hbx
              have hNR : BN ≠ BR := KN7.out.apart KR7.out (by decide)
              have hRN : BR ≠ BN := fun e => hNR e.symm
              have hMR : BM ≠ BR := KM7.out.apart KR7.out (by decide)
              have hMN : BM ≠ BN := by have := HBN.out; omega
              clear ho hb1 hb2 hbx hKR hKN hKM hMo hLo hBl hA1 hA2 HIP HLX hrem hmul hBW hK2b
              have n0 := NX7.out.cell (i := 0) rfl
              have n1 := NX7.out.cell (i := 1) rfl
              have n2 := NX7.out.cell (i := 2) rfl
              have n3 := NX7.out.cell (i := 3) rfl
              have n4 := NX7.out.cell (i := 4) rfl
              have l0 := LR7.out.cell (i := 0) rfl
              have c0 := KR7.out.cell (i := 0) rfl
              have c1 := KR7.out.cell (i := 1) rfl
              have c2 := KR7.out.cell (i := 2) rfl
              have c3 := KR7.out.cell (i := 3) rfl
              have c4 := KR7.out.cell (i := 4) rfl
              have f0 := KR7.out.free 0
              have f1 := KR7.out.free 1
              have f2 := KR7.out.free 2
              have f3 := KR7.out.free 3
              have f4 := KR7.out.free 4
              have m0 := KN7.out.cell (i := 0) rfl
              have g0 := KN7.out.free 0
              have q1 := KR7.out.set 0 (.int .u32 RL)
              have q2 := q1.set 1 (.int .u32 RH)
              have q3 := q2.set 2 (.int .u32 RO)
              have q4 := q3.set 3 (.string t)
              have q5 := q4.set 4 (.int .i64 RI)
              simp only [List.set_cons_zero, List.set_cons_succ] at q1 q2 q3 q4 q5
              have p5 := (((((KN7.out.other (a := ⟨BR, 0, none⟩) hNR (.int .u32 RL)).other (a := ⟨BR, 1, none⟩) hNR (.int .u32 RH)).other (a := ⟨BR, 2, none⟩) hNR (.int .u32 RO)).other (a := ⟨BR, 3, none⟩) hNR (.string t)).other (a := ⟨BR, 4, none⟩) hNR (.int .i64 RI))
              have QR := hid (q5.other (a := ⟨BN, 0, none⟩) hRN (.slice ya 48 yc))
              have QN := hid (p5.set 0 (.slice ya 48 yc))
              have QM := hid ((((((KM7.out.other (a := ⟨BR, 0, none⟩) hMR (.int .u32 RL)).other (a := ⟨BR, 1, none⟩) hMR (.int .u32 RH)).other (a := ⟨BR, 2, none⟩) hMR (.int .u32 RO)).other (a := ⟨BR, 3, none⟩) hMR (.string t)).other (a := ⟨BR, 4, none⟩) hMR (.int .i64 RI)).other (a := ⟨BN, 0, none⟩) hMN (.slice ya 48 yc))
              have QO := hid ((((((Y7.out.typed KR7.out (by decide) (i := 0) (.int .u32 RL)).typed q1 (by decide) (i := 1) (.int .u32 RH)).typed q2 (by decide) (i := 2) (.int .u32 RO)).typed q3 (by decide) (i := 3) (.string t)).typed q4 (by decide) (i := 4) (.int .i64 RI)).typed p5 (by decide) (i := 0) (.slice ya 48 yc))
              have QL := hid ((((((L7.out.typed KR7.out (by decide) (i := 0) (.int .u32 RL)).typed q1 (by decide) (i := 1) (.int .u32 RH)).typed q2 (by decide) (i := 2) (.int .u32 RO)).typed q3 (by decide) (i := 3) (.string t)).typed q4 (by decide) (i := 4) (.int .i64 RI)).typed p5 (by decide) (i := 0) (.slice ya 48 yc))
              have QW := hid ((((((M7.out.typed KR7.out (by decide) (i := 0) (.int .u32 RL)).typed q1 (by decide) (i := 1) (.int .u32 RH)).typed q2 (by decide) (i := 2) (.int .u32 RO)).typed q3 (by decide) (i := 3) (.string t)).typed q4 (by decide) (i := 4) (.int .i64 RI)).typed p5 (by decide) (i := 0) (.slice ya 48 yc))
              have QB := hid ((((((BL7.out.setCell (p := ⟨BR, 0, none⟩) HWN.out.2 (.int .u32 RL)).setCell (p := ⟨BR, 1, none⟩) HWN.out.2 (.int .u32 RH)).setCell (p := ⟨BR, 2, none⟩) HWN.out.2 (.int .u32 RO)).setCell (p := ⟨BR, 3, none⟩) HWN.out.2 (.string t)).setCell (p := ⟨BR, 4, none⟩) HWN.out.2 (.int .i64 RI)).setCell (p := ⟨BN, 0, none⟩) HWN.out.1 (.slice ya 48 yc))
              clear q1 q2 q3 q4 q5 p5 KR7 KN7 KM7 M7 L7 BL7 Y7 NX7 LR7
              go_wp2_with fail
              generalize (((((w7.setCell ⟨BR, 0, none⟩ (.int .u32 RL)).setCell ⟨BR, 1, none⟩ (.int .u32 RH)).setCell ⟨BR, 2, none⟩ (.int .u32 RO)).setCell ⟨BR, 3, none⟩ (.string t)).setCell ⟨BR, 4, none⟩ (.int .i64 RI)).setCell ⟨BN, 0, none⟩ (.slice ya 48 yc) = w8 at *
              clear n0 n1 n2 n3 n4 l0 c0 c1 c2 c3 c4 f0 f1 f2 f3 f4 m0 g0 lx
              go_roundw
              case rel => exact ⟨k + 1, ya, yc, by omega, by go_num, by rw [HRR.out.1, HRR.out.2.1, HRR.out.2.2.1, HRR.out.2.2.2.1, HTT.out]; exact QR.out, QN.out, by rw [HRR.out.2.2.2.2]; exact QO.out.lower HSW2.out, QL.out, QM.out, QW.out, QB.out⟩
              case measure => simp [intOf]; omega
          · obtain rfl : k = xs.length := by omega
            have m0 := hKM.out.cell (i := 0) rfl
            have m1 := hKN.out.cell (i := 0) rfl
            have BF := hid (B1.out.trans (hBl.out.mono B1.out.size))
            have HSM : Hid (Calls Try.prog 15 #[.slice va 48 vc, .slice vb 48 vd] wr fun e w' => e = .returned (.bool true) ∧ Below wr.heap.size wr w') := by
              have h48 := (stN_ok xs xs.length).ln
              obtain ⟨a1, c1, e1, hv1⟩ := hMo.out.view
              obtain ⟨a2, c2, e2, hv2⟩ := hNo.out.view
              rw [h48] at e1 e2 hv1 hv2
              cases e1
              cases e2
              exact same_same va vb 48 vc vd _ wr (by decide) hv1 hv2
            clear hKR hKN hNo hLo hKM hMo hBl
            go_wp2_with fail
            refine HSM.out.mono ?_
            rintro e w8 ⟨rfl, hb8⟩
            have BG := hid (BF.out.trans (hb8.mono BF.out.size))
            clear hb8
            go_wp2_with fail
            go_ret
            exact ⟨rfl, BG.out⟩
end Go.Proofs.Ytimafabbepgifaa
