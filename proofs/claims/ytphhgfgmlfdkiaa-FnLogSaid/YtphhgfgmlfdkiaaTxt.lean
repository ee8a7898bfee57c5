/- The contract of text: what stands where a record would, taken for its text or not. -/
import Derived.Test.YtphhgfgmlfdkiaaBu
import Derived.Test.YtphhgfgmlfdkiaaQg
namespace Go.Proofs.Ytphhgfgmlfdkiaa
open Go.RowKit
set_option linter.unusedVariables false

/-- What text says of parts P in the place of record q. -/
def txB (q : Nat) (P : List ByteArray) : Bool := longTo P 0 P.length && decide (partsP q (joinTo P 0 P.length) = P)
def txS (q : Nat) (P : List ByteArray) : ByteArray := if txB q P = true then joinTo P 0 P.length else ⟨#[]⟩

set_option maxRecDepth 100000 in
set_option maxHeartbeats 3200000 in
theorem text_any (q : Nat) (bh : Int) (pa : Option Addr) (pc : Nat) (P : List ByteArray) (w : World) (hq : q ≤ 10000) (hn : P.length ≤ 1500) (hs : ∀ j, j < P.length → (sAt P j).size ≤ 128) (hr : Rw w pa (encS P)) :
    Calls Try.prog 50 #[.agg #[.int .i64 q, .slice pa P.length pc, .int .i64 bh]] w fun e w' => e = .returned (.tuple #[.string (txS q P), .bool (txB q P)]) ∧ Below w.heap.size w w' := by
  have HR0 := hid hr
  have HS := hid hs
  clear hr hs
  have HY := hid (show longTo P 0 P.length = true → partsP q (joinTo P 0 P.length) = P → txB q P = true ∧ txS q P = joinTo P 0 P.length from fun h1 h2 => by
    have : txB q P = true := by unfold txB; rw [h1, decide_eq_true h2]; rfl
    exact ⟨this, by unfold txS; rw [if_pos this]⟩)
  have HN := hid (show ¬ (longTo P 0 P.length = true ∧ partsP q (joinTo P 0 P.length) = P) → txB q P = false ∧ txS q P = ⟨#[]⟩ from fun h => by
    have : txB q P = false := by
      cases hb : txB q P with
      | false => rfl
      | true =>
        unfold txB at hb
        simp only [Bool.and_eq_true, decide_eq_true_eq] at hb
        exact absurd hb h
    exact ⟨this, by unfold txS; rw [if_neg (by rw [this]; exact Bool.noConfusion)]⟩)
  generalize txB q P = RB at *
  generalize txS q P = RS at *
  have HIM := hid (fun x wz (hx : x.size ≤ 1048576) => impl_parts q x wz hx)
  obtain ⟨n1, n2, n3⟩ := new_two w [.int .i64 q, .slice pa P.length pc, .int .i64 bh] [.pointer none, .slice none 0 0] 82 112
  have N := hid n1
  have B := hid n3
  have U : Hid (Bld ((w.alloc (.cells #[.int .i64 q, .slice pa P.length pc, .int .i64 bh] 82)).alloc (.cells #[.pointer none, .slice none 0 0] 112)) (w.heap.size + 1) (w.heap.size + 1) ByteArray.empty) := hid (by
    have := bld_new (w.alloc (.cells #[.int .i64 q, .slice pa P.length pc, .int .i64 bh] 82))
    rw [show (w.alloc (.cells #[.int .i64 q, .slice pa P.length pc, .int .i64 bh] 82)).heap.size = w.heap.size + 1 by simp] at this
    exact this)
  clear n1 n2 n3
  have q1 := N.out.cell (i := 1) rfl
  go_enter Try.func50, Try.ntmps50
  go_wp2_with fail
  clear q1
  generalize (w.alloc _).alloc _ = wa at *
  go_loopw [12] (fun i wr => ∃ (k : Nat), k ≤ P.length ∧ i = .int .i64 k ∧ Hid (longTo P 0 k = true) ∧ Hid (Bld wr (w.heap.size + 1) (w.heap.size + 1) (joinTo P 0 k)) ∧ Hid ((joinTo P 0 k).size ≤ k * 116) ∧ Hid (Blk wr w.heap.size [.int .i64 q, .slice pa P.length pc, .int .i64 bh] 82) ∧ Hid (Below w.heap.size w wr) ∧ w.heap.size + 1 ≤ wr.heap.size) (fun i _ => P.length - (intOf i).toNat)
  case atStart => exact ⟨0, by omega, rfl, rfl, U.out, Nat.le_refl 0, N.out, B.out, N.out.lt⟩
  case round =>
    clear U N B
    obtain ⟨k, hk, rfl, hlg, U, hjz, N, B, hsz⟩ := hrel
    by_cases hlt : k < P.length
    · have hlt' : (k : Int) < (P.length : Int) := by omega
      obtain ⟨g, o, rfl, hc⟩ := (HR0.out.below (Nat.le_refl _) B.out).atS k hlt
      have hxs := HS.out k hlt
      by_cases hx12 : ((sAt P k).size : Int) < 12
      · obtain ⟨e1, e2⟩ := HN.out (fun h => by
          have := (longTo_iff P 0 P.length).1 h.1 k hlt
          rw [Nat.zero_add] at this
          omega)
        subst e1
        subst e2
        go_wp2_with fail
        refine bodyPost_ret (v := .tuple #[.string ⟨#[]⟩, .bool false]) (by simp [results, Try.results50, go_sem]) rfl ?_
        exact ⟨rfl, B.out⟩
      · have hx12' : (12 : Int) ≤ ((sAt P k).size : Int) := by omega
        have HLG := hid ((longTo_iff P 0 (k + 1)).2 (fun j hj => by
          rw [Nat.zero_add]
          by_cases e : j = k
          · subst e; omega
          · have := (longTo_iff P 0 k).1 hlg.out j (by omega)
            rw [Nat.zero_add] at this
            exact this))
        have HJ := hid (show joinTo P 0 (k + 1) = joinTo P 0 k ++ (sAt P k).extract 12 (sAt P k).size from by rw [joinTo, Nat.zero_add]; rfl)
        have hys : ((sAt P k).extract 12 (sAt P k).size).size ≤ 116 := by simp only [ByteArray.size_extract]; omega
        obtain ⟨Y, hY⟩ : ∃ Y, (sAt P k).extract 12 (sAt P k).size = Y := ⟨_, rfl⟩
        rw [hY] at HJ hys
        have hjz' := hjz.out
        go_wp2_with fail
        refine (bld_write (w.heap.size + 1) (w.heap.size + 1) (joinTo P 0 k) Y _ U.out (by omega) hsz).mono ?_
        rintro e w2 ⟨rfl, U2, hb2⟩
        have HU2 := hid (show Bld w2 (w.heap.size + 1) (w.heap.size + 1) (joinTo P 0 (k + 1)) by rw [HJ.out]; exact U2)
        have HZ2 := hid (show (joinTo P 0 (k + 1)).size ≤ (k + 1) * 116 by rw [HJ.out, ByteArray.size_append]; omega)
        have N2 := hid (N.out.below hb2 (by omega))
        have B2 := hid (B.out.trans (hb2.mono (by omega)))
        have hsz2 := Nat.le_trans hsz hb2.size
        clear U2 hb2
        go_wp2_with fail
        go_roundw
        case rel => exact ⟨k + 1, by omega, by go_num, HLG.out, HU2.out, HZ2.out, N2.out, B2.out, hsz2⟩
        case measure => simp [intOf]; omega
    · obtain rfl : k = P.length := by omega
      have hjz' := hjz.out
      go_wp2_with fail
      refine (bld_string (w.heap.size + 1) (w.heap.size + 1) (joinTo P 0 P.length) _ U.out hsz).mono ?_
      rintro e w2 ⟨rfl, hb2⟩
      replace N := hid (N.out.below hb2 (by omega))
      replace B := hid (B.out.trans (hb2.mono (by omega)))
      clear hb2 U
      have q0 := N.out.cell (i := 0) rfl
      have q1 := N.out.cell (i := 1) rfl
      generalize hJ : joinTo P 0 P.length = J at *
      go_wp2_with fail
      refine region_R (by kernel_rfl) ?_
      refine anyR_quiet 0 rfl (by kernel_rfl) (by kernel_rfl) (by kernel_rfl) (fun K hK => ?_)
      go_simp
      refine ⟨_, fun _ _ => rfl, hK _ ?_⟩
      clear hK K
      refine anyR_load 1 rfl (by kernel_rfl) (by kernel_rfl) (by kernel_rfl) (.int .i64 q) rfl (fun wz hwz => ?_) (fun K hK => ?_)
      · have y0 := cell_bw q0 hwz
        go_simp
      go_simp
      refine hK _ ?_
      clear hK K
      refine anyR_quiet 2 rfl (by kernel_rfl) (by kernel_rfl) (by kernel_rfl) (fun K hK => ?_)
      go_simp
      refine ⟨_, fun _ _ => rfl, hK _ ?_⟩
      clear hK K
      refine anyR_quiet 4 rfl (by kernel_rfl) (by kernel_rfl) (by kernel_rfl) (fun K hK => ?_)
      go_simp
      refine ⟨_, fun _ _ => rfl, hK _ ?_⟩
      clear hK K
      refine anyR_load 5 rfl (by kernel_rfl) (by kernel_rfl) (by kernel_rfl) (.slice pa P.length pc) rfl (fun wz hwz => ?_) (fun K hK => ?_)
      · have y0 := cell_bw q1 hwz
        go_simp
      go_simp
      refine hK _ ?_
      clear hK K
      refine anyR_call 3 rfl rfl (by kernel_rfl) (by kernel_rfl) (fun wx hwx K hK => ?_)
      go_simp
      refine (HIM.out J wx (by omega)).mono ?_
      rintro e wy ⟨vT, rfl, hoT, hby⟩
      obtain ⟨ta, tc, rfl, _, _⟩ := hoT.shape
      refine hK _ _ (.inr hby) ?_
      clear hK K
      have GT := hid hoT
      have HBY := hid (Bw.trans hwx hby)
      have HRP := hid (HR0.out.below (Nat.le_refl _) (B.out.trans (Below.mono HBY.out B.out.size)))
      have hTl := partsP_len q J
      have HEQ := hid (fun wz (hz : Bw wy wz) => equal_texts ta pa tc pc (partsP q J) P wz (by omega) (by omega) (GT.out.below hz).rw (HRP.out.below (Nat.le_refl _) hz))
      clear hoT hby hwx
      generalize hd : decide (partsP q J = P) = d at *
      refine anyR_quiet 6 rfl (by kernel_rfl) (by kernel_rfl) (by kernel_rfl) (fun K hK => ?_)
      go_simp
      apply Exists.intro
      refine ⟨fun wz hwz => ?_, hK _ ?_⟩
      · go_at_call 82
        exact (HEQ.out wz hwz).mono (fun _ _ h => ⟨h.1, h.2⟩)
      clear hK K
      refine anyR_quiet 7 rfl (by kernel_rfl) (by kernel_rfl) (by kernel_rfl) (fun K hK => ?_)
      go_simp
      refine ⟨_, fun _ _ => rfl, hK _ ?_⟩
      clear hK K
      refine anyR_nil (by kernel_rfl) (fun wz hwz => ?_)
      have HBZ := hid (B.out.trans (Below.mono (HBY.out.trans hwz) B.out.size))
      clear hwz HEQ GT HRP
      cases d
      · obtain ⟨e1, e2⟩ := HN.out (fun h => (of_decide_eq_false hd) h.2)
        subst e1
        subst e2
        go_wp2_with fail
        refine bodyPost_ret (v := .tuple #[.string ⟨#[]⟩, .bool false]) (by simp [results, Try.results50, go_sem]) rfl ?_
        exact ⟨rfl, HBZ.out⟩
      · obtain ⟨e1, e2⟩ := HY.out hlg.out (of_decide_eq_true hd)
        subst e1
        subst e2
        go_wp2_with fail
        refine bodyPost_ret (v := .tuple #[.string RS, .bool true]) (by simp [results, Try.results50, go_sem]) rfl ?_
        exact ⟨rfl, HBZ.out⟩
end Go.Proofs.Ytphhgfgmlfdkiaa
