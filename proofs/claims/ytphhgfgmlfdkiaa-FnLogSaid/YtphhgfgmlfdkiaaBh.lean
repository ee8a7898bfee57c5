/- Contracts of settle, lose, readAll, diskBehind, and of the program's DiskSync and DiskCrash. -/
import Derived.Test.YtphhgfgmlfdkiaaCp
import Derived.Test.YtphhgfgmlfdkiaaSt
import Derived.Test.YtphhgfgmlfdkiaaFr
namespace Go.Proofs.Ytphhgfgmlfdkiaa
open Go.RowKit
set_option linter.unusedVariables false

/-- Of what was there only an own slice's block and a map's have turned. -/
def Fd (v : Value) (b : Nat) (w w' : World) : Prop := w'.os = w.os ∧ w'.tape = w.tape ∧ w'.output = w.output ∧ w.heap.size ≤ w'.heap.size ∧ ∀ g, g < w.heap.size → some g ≠ v.ownBlock → g ≠ b → w'.heap[g]? = w.heap[g]?
theorem Fd.refl (v : Value) (b : Nat) (w : World) : Fd v b w w := ⟨rfl, rfl, rfl, Nat.le_refl _, fun _ _ _ _ => rfl⟩
theorem Fd.trans {v : Value} {b : Nat} {w w' w'' : World} (h : Fd v b w w') (k : Fd v b w' w'') : Fd v b w w'' :=
  ⟨k.1.trans h.1, k.2.1.trans h.2.1, k.2.2.1.trans h.2.2.1, Nat.le_trans h.2.2.2.1 k.2.2.2.1, fun g hg h1 h2 => (k.2.2.2.2 g (Nat.lt_of_lt_of_le hg h.2.2.2.1) h1 h2).trans (h.2.2.2.2 g hg h1 h2)⟩
theorem Fd.ofGrown {v : Value} {b : Nat} {w w' : World} (h : w.grownBy w' (some b)) : Fd v b w w' := ⟨h.os, h.tape, h.output, h.size, fun g hg _ h2 => h.block g hg (fun e => h2 (Option.some.inj e))⟩
theorem Fd.ofBelow {v : Value} {b : Nat} {w w' : World} (h : Below w.heap.size w w') : Fd v b w w' := ⟨h.os, h.tape, h.output, h.size, fun g hg _ _ => h.block g hg⟩
theorem Fd.below {v : Value} {b B : Nat} {w w' : World} (h : Fd v b w w') (hv : ∀ g, v.ownBlock = some g → B ≤ g) (hb : B ≤ b) (hB : B ≤ w.heap.size) : Below B w w' :=
  ⟨h.1, h.2.1, h.2.2.1, h.2.2.2.1, fun k hk => h.2.2.2.2 k (Nat.lt_of_lt_of_le hk hB) (fun e => by have := hv k e.symm; omega) (by omega)⟩
theorem Blk.fd {v : Value} {b : Nat} {w w' : World} {g : Nat} {l : List Value} {t : TypeId} (h : Blk w g l t) (hf : Fd v b w w') (h1 : some g ≠ v.ownBlock) (h2 : g ≠ b) : Blk w' g l t := (hf.2.2.2.2 g h.lt h1 h2).trans h

set_option maxRecDepth 100000 in
set_option maxHeartbeats 1600000 in
theorem od_settle (ao : Option Addr) (c b m base : Nat) (S : List ByteArray) (f : Int → Option (Int × ByteArray)) (k : Nat) (x : Int) (s : ByteArray) (w : World) (hk : k < S.length) (hn : S.length ≤ 1500) (hf : f (k : Int) = some (x, s)) (ho : OwG w base 9 1 (.slice ao S.length c) S.length (encS S)) (h : MapW w b m f) :
    Calls Try.prog 76 #[.agg #[.slice ao S.length c, .map (some b)], .int .i64 k] w fun e w' => e = .returned (.tuple #[]) ∧ OwG w' base 9 1 (.slice ao S.length c) S.length (encS (S.set k s)) ∧ MapW w' b m (delF f (k : Int)) ∧ Fd (.slice ao S.length c) b w w' := by
  have hki : (Lit.int .i64 (k : Int)).wf = true := WalkArith.wf_i64 (by omega)
  obtain ⟨g, rfl⟩ := ho.addr (by omega)
  have HB := hid ((Below.refl w.heap.size w).alloc (Nat.le_refl _) (.cells #[.slice (some ⟨g, 0, none⟩) S.length c, .map (some b)] 78))
  have HB2 := hid (HB.out.alloc HB.out.size (.cells #[.int .i64 x, .string s] 69))
  have HM := hid (h.below HB.out)
  have HO := hid (ho.below HB2.out)
  have HM2 := hid (h.below HB2.out)
  have HN := hid ((Blk.new w [.slice (some ⟨g, 0, none⟩) S.length c, .map (some b)] 78).alloc (.cells #[.int .i64 x, .string s] 69))
  have HGT : Hid (gtF f (k : Int) = (x, s)) := hid (by unfold gtF; rw [hf]; rfl)
  have HIS : Hid ((f (k : Int)).isSome = true) := hid (by rw [hf]; rfl)
  have hge := (ho.ge).2
  obtain ⟨b', off', e', hold⟩ := HO.out.rw.atS k hk
  cases e'
  rw [Nat.zero_add] at hold
  have hfree := HO.out.free k
  have hnew := HO.out.store k (.string s)
  rw [encS_set] at hnew
  have HNEW := hid hnew
  have hne : w.heap.size ≠ g := by simp only at hge; omega
  have HN2 := hid (HN.out.other (a := ⟨g, k, none⟩) hne (.string s))
  have HM3 := hid (HM2.out.setCell (a := ⟨g, k, none⟩) (fun e => HM2.out.neO HO.out g rfl (by rw [e])) (.string s))
  have HF : Hid (Fd (.slice (some ⟨g, 0, none⟩) S.length c) b w (((w.alloc (.cells #[.slice (some ⟨g, 0, none⟩) S.length c, .map (some b)] 78)).alloc (.cells #[.int .i64 x, .string s] 69)).setCell ⟨g, k, none⟩ (.string s))) := hid
    ⟨HB2.out.os, HB2.out.tape, HB2.out.output, by have := HB2.out.size; simpa [World.setCell] using this, fun q hq h1 _ => (Below.heap_setCell _ _ _ _ (fun e => h1 (by rw [e]; rfl))).trans (HB2.out.block q hq)⟩
  have hk' : (k : Int) < (S.length : Int) := by omega
  have q0 := HN.out.cell (i := 0) rfl
  have q1 := HN.out.cell (i := 1) rfl
  have p1 := HN2.out.cell (i := 1) rfl
  have hls : (S.set k s).length = S.length := by simp
  clear ho h hf hnew hge
  generalize sAt S k = Y at *
  go_enter Try.func76, Try.ntmps76
  go_wp2_with (first
    | (at_lookup; refine wpList_lookW _ rfl _ _ rfl b m f rfl HM.out (k : Int) rfl hki x s true HGT.out HIS.out ?_)
    | (at_delete; refine wpList_dropW _ rfl _ _ rfl b m f rfl HM3.out (k : Int) rfl hki ?_))
  intro w1 hm1 ht1
  have HM4 := hid hm1
  have HG1 := hid ht1.grown
  have HO1 := hid (HNEW.out.kept HG1.out (HM3.out.neO HNEW.out))
  have HF1 := hid (HF.out.trans (Fd.ofGrown HG1.out))
  clear hm1 ht1 q0 q1 p1 hold hfree
  go_wp2_with fail
  go_end0
  exact ⟨rfl, HO1.out, HM4.out, HF1.out⟩

set_option maxRecDepth 100000 in
set_option maxHeartbeats 1600000 in
theorem od_lose (ao : Option Addr) (n c b m : Nat) (f : Int → Option (Int × ByteArray)) (w : World) (h : MapW w b m f) :
    Calls Try.prog 77 #[.agg #[.slice ao n c, .map (some b)]] w fun e w' => e = .returned (.tuple #[]) ∧ MapW w' b m (fun _ => none) ∧ w.grownBy w' (some b) := by
  have HB := hid ((Below.refl w.heap.size w).alloc (Nat.le_refl _) (.cells #[.slice ao n c, .map (some b)] 78))
  have HM := hid (h.below HB.out)
  have HG := hid (World.grownBy_alloc w (.cells #[.slice ao n c, .map (some b)] 78) (some b))
  clear h
  go_enter Try.func77, Try.ntmps77
  go_wp2_with (refine wpList_wipeW _ rfl _ rfl b m f rfl HM.out ?_)
  intro w1 hm1 ht1
  have HM1 := hid hm1
  have HG1 := hid (HG.out.trans ht1.grown)
  clear hm1 ht1
  go_wp2_with fail
  go_end0
  exact ⟨rfl, HM1.out, HG1.out⟩

/-- What is read of all sectors. -/
def raL (f : Int → Option (Int × ByteArray)) (S : List ByteArray) : List ByteArray := (List.range S.length).map fun (i : Nat) => rdF f S (i : Int)
theorem raL_len (f : Int → Option (Int × ByteArray)) (S : List ByteArray) : (raL f S).length = S.length := by simp [raL]
theorem raL_at (f : Int → Option (Int × ByteArray)) (S : List ByteArray) (j : Nat) (h : j < S.length) : sAt (raL f S) j = rdF f S (j : Int) := by simp [raL, sAt, List.getD, h]
theorem raL_none (S : List ByteArray) : raL (fun _ => none) S = S := s_ext (raL_len _ _) (fun i hi => by
  rw [raL_len] at hi
  rw [raL_at _ _ _ hi, rdF_none rfl, Int.toNat_natCast])

set_option maxRecDepth 100000 in
set_option maxHeartbeats 1600000 in
theorem read_all (ao : Option Addr) (c b m : Nat) (S : List ByteArray) (f : Int → Option (Int × ByteArray)) (w : World) (hn : S.length ≤ 1500) (hr : Rw w ao (encS S)) (h : MapW w b m f) :
    Calls Try.prog 49 #[.agg #[.slice ao S.length c, .map (some b)]] w fun e w' => ∃ v', e = .returned v' ∧ OwG w' w.heap.size 9 1 v' S.length (encS (raL f S)) ∧ Below w.heap.size w w' := by
  have HB := hid ((Below.refl w.heap.size w).alloc (Nat.le_refl _) (.cells #[.slice ao S.length c, .map (some b)] 78))
  have HN := hid (Blk.new w [.slice ao S.length c, .map (some b)] 78)
  have HR := hid hr
  have HM := hid h
  clear hr h
  have HRA := hid (fun ys (h1 : List.length ys = S.length) (h2 : ∀ j, j < S.length → sAt ys j = rdF f S (j : Int)) => (show raL f S = ys from s_ext ((raL_len _ _).trans h1.symm) (fun i hi => by rw [raL_len] at hi; rw [raL_at _ _ _ hi, h2 i hi])))
  generalize raL f S = RA at *
  go_enter Try.func49, Try.ntmps49
  go_wp2_with (at_make; refine wpList_mkS _ rfl _ _ 24 rfl (w.heap.size + 1) 9 16 Try.underlying24 Try.info9 _ _ _ _ S.length rfl rfl rfl rfl (by omega) (by decide) (by simp) ?_)
  intro w0 hown0 hb0 _
  have HB0 := hid (HB.out.trans (hb0.mono (Nat.le_succ _)))
  have HN0 := hid (HN.out.below hb0 (Nat.lt_succ_self _))
  clear hb0 HN HB
  go_wp2_with fail
  go_loopw [11] (fun i wr => ∃ (k : Nat) (ys : List ByteArray), k ≤ S.length ∧ i = .int .i64 k ∧ Hid (OwG wr (w.heap.size + 1) 9 1 (.slice (some ⟨w.heap.size + 1, 0, none⟩) S.length S.length) S.length (encS ys)) ∧ Hid (ys.length = S.length ∧ ∀ j, j < k → sAt ys j = rdF f S (j : Int)) ∧ Hid (Below w.heap.size w wr) ∧ Hid (Blk wr w.heap.size [.slice ao S.length c, .map (some b)] 78)) (fun i _ => S.length - (intOf i).toNat)
  case atStart => exact ⟨0, _, by omega, rfl, hown0, ⟨by simp, fun j hj => by omega⟩, HB0.out, HN0.out⟩
  case round =>
    obtain ⟨k, ys, hk, rfl, hown, hys, hb, hbk⟩ := hrel
    clear hown0 HB0 HN0
    by_cases hlt : k < S.length
    · have HRD := hid (od_read ao c b m S f k wr hlt hn (HR.out.below (Nat.le_refl _) hb.out) (HM.out.below hb.out))
      have hlt' : (k : Int) < (S.length : Int) := by omega
      have q0 := hbk.out.cell (i := 0) rfl
      have q1 := hbk.out.cell (i := 1) rfl
      generalize hX : rdF f S (k : Int) = X at *
      have HX := hid hX
      clear hX
      go_wp2_with fail
      refine HRD.out.mono ?_
      rintro e w1 ⟨rfl, hb1⟩
      have ho1 := hown.out.below hb1
      obtain ⟨b', off', e', hold⟩ := ho1.rw.atS k (by have := hys.out.1; omega)
      cases e'
      rw [Nat.zero_add] at hold
      have hfree := ho1.free k
      have hnew := ho1.store k (.string X)
      rw [encS_set] at hnew
      have HNEW := hid hnew
      have HL := hid hys.out.1
      have B1 := hid ((hb.out.trans (hb1.mono hb.out.size)).setCell (p := ⟨w.heap.size + 1, k, none⟩) (Nat.le_succ _) (.string X))
      have K1 := hid ((hbk.out.below hb1 hbk.out.lt).other (a := ⟨w.heap.size + 1, k, none⟩) (by show w.heap.size ≠ w.heap.size + 1; omega) (.string X))
      generalize sAt ys k = Y at *
      clear hnew ho1 hb1 q0 q1
      go_wp2_with fail
      go_roundw
      case rel =>
        refine ⟨k + 1, _, by omega, by go_num, HNEW.out, ⟨by simp; exact hys.out.1, fun j hj => ?_⟩, B1.out, K1.out⟩
        by_cases e : j = k
        · subst e
          rw [sAt_set_same _ _ _ (by rw [HL.out]; exact hlt), HX.out]
        · rw [sAt_set_ne _ _ _ _ (fun h => e h.symm), hys.out.2 j (by omega)]
      case measure => simp [intOf]; omega
    · obtain rfl : k = S.length := by omega
      have hxy := HRA.out ys hys.out.1 (fun i hi => hys.out.2 i hi)
      subst hxy
      go_wp2_with fail
      go_ret
      exact ⟨_, rfl, hown.out.mono (Nat.le_succ _), hb.out⟩

/-- The sectors behind the first k writes, those that are kept being safe; and what is late then. -/
def crTo (S : List ByteArray) (L : List (Int × ByteArray)) (kp : Nat → Bool) : Nat → List ByteArray
  | 0 => S
  | k + 1 => if kp k = true then (crTo S L kp k).set (lAt L k).1.toNat (lAt L k).2 else crTo S L kp k
def mbTo (L : List (Int × ByteArray)) (kp : Nat → Bool) : Nat → Int → Option (Int × ByteArray)
  | 0 => fun _ => none
  | k + 1 => if kp k = true then delF (updF (mbTo L kp k) (lAt L k).1 (lAt L k)) (lAt L k).1 else updF (mbTo L kp k) (lAt L k).1 (lAt L k)
theorem crTo_len (S : List ByteArray) (L : List (Int × ByteArray)) (kp : Nat → Bool) : ∀ k, (crTo S L kp k).length = S.length
  | 0 => rfl
  | k + 1 => by
    rw [crTo]
    split
    · rw [List.length_set, crTo_len S L kp k]
    · exact crTo_len S L kp k
/-- What DiskSync and DiskCrash answer. -/
def bhS (S : List ByteArray) (L : List (Int × ByteArray)) (kp : Nat → Bool) : List ByteArray := if okB S L = true then crTo S L kp L.length else S
def bhL (S : List ByteArray) (L : List (Int × ByteArray)) : List (Int × ByteArray) := if okB S L = true then [] else L
theorem bhS_yes {S : List ByteArray} {L : List (Int × ByteArray)} {kp : Nat → Bool} (h : okB S L = true) : bhS S L kp = crTo S L kp L.length := by unfold bhS; rw [if_pos h]
theorem bhS_no {S : List ByteArray} {L : List (Int × ByteArray)} {kp : Nat → Bool} (h : okB S L = false) : bhS S L kp = S := by unfold bhS; rw [if_neg (by rw [h]; exact Bool.noConfusion)]
theorem bhL_yes {S : List ByteArray} {L : List (Int × ByteArray)} (h : okB S L = true) : bhL S L = [] := by unfold bhL; rw [if_pos h]
theorem bhL_no {S : List ByteArray} {L : List (Int × ByteArray)} (h : okB S L = false) : bhL S L = L := by unfold bhL; rw [if_neg (by rw [h]; exact Bool.noConfusion)]
theorem bhS_len (S : List ByteArray) (L : List (Int × ByteArray)) (kp : Nat → Bool) : (bhS S L kp).length = S.length := by
  unfold bhS
  split
  · exact crTo_len _ _ _ _
  · rfl
theorem bhL_len (S : List ByteArray) (L : List (Int × ByteArray)) : (bhL S L).length ≤ L.length := by
  unfold bhL
  split
  · simp
  · exact Nat.le_refl _

theorem hasS_nat2 {n : Nat} {i : Int} (h : hasS n i = true) : ∃ k : Nat, i = (k : Int) ∧ k < n := by
  have := of_decide_eq_true h
  exact ⟨i.toNat, by omega, by omega⟩
def kpAll : Nat → Bool := fun _ => true
theorem clo_sync (k : Nat) (w : World) : Calls Try.prog 46 #[.int .i64 k] w fun e w' => e = .returned (.bool (kpAll k)) ∧ w = w' := by
  go_enter Try.func46, Try.ntmps46
  go_wp2
  go_ret
  exact ⟨rfl, rfl⟩

set_option maxRecDepth 100000 in
set_option maxHeartbeats 6400000 in
theorem behind_sync (v : Value) (S : List ByteArray) (L : List (Int × ByteArray)) (w : World) (h1 : S.length ≤ 1048576) (h2 : L.length ≤ 1048576) (hv : DP w v S L) :
    Calls Try.prog 45 #[v, .func (.func 46) #[] #[]] w fun e w' => ∃ v', e = .returned v' ∧ DO w' w.heap.size v' (bhS S L kpAll) (bhL S L) ∧ Below w.heap.size w w' := by
  obtain ⟨a, c, a', c', e0, r1, r2, p1, p2⟩ := id hv
  subst e0
  obtain ⟨n1, n2, n3⟩ := new_two w [.slice a S.length c, .slice a' L.length c'] [.slice none 0 0, .slice none 0 0] 27 27
  have N := hid n1
  have O := hid n2
  have B := hid n3
  have V := hid (hv.below (Nat.le_refl _) n3)
  have R2 := hid r2
  have HOK := hid (impl_ok _ S L _ V.out.dv)
  have HCLO : Hid (∀ (k : Nat) q, k ≤ 3000 → Below w.heap.size w q → Calls Try.prog 46 #[.int .i64 k] q fun e w' => e = .returned (.bool (kpAll k)) ∧ q = w') := hid (fun k q _ _ => clo_sync k q)
  clear n1 n2 n3 r1 r2 p1 p2 hv
  have q0 := N.out.cell (i := 0) rfl
  have q1 := N.out.cell (i := 1) rfl
  have hO := O.out.lt
  cases hO1 : okB S L with
  | false =>
    rw [bhS_no hO1, bhL_no hO1]
    rw [hO1] at HOK
    go_enter Try.func45, Try.ntmps45
    go_wp2_with fail
    refine HOK.out.mono ?_
    generalize (w.alloc _).alloc _ = wa at *
    rintro e w1 ⟨rfl, hb⟩
    replace B := hid (B.out.trans (hb.mono B.out.size))
    replace N := hid (N.out.below hb N.out.lt)
    replace O := hid (O.out.below hb O.out.lt)
    replace V := hid (V.out.below (Nat.le_refl _) hb)
    clear hb q0 q1
    have q0 := N.out.cell (i := 0) rfl
    have q1 := N.out.cell (i := 1) rfl
    have hO3 := O.out.lt
    go_wp2_with fail
    clear q0 q1
    refine (copy_disk _ S L _ h1 h2 V.out).mono ?_
    rintro e w2 ⟨v', rfl, ⟨va, vb, rfl, ho1, ho2⟩, hb⟩
    obtain ⟨xa, xc, rfl, _, _⟩ := ho1.shape
    obtain ⟨ya, yc, rfl, _, _⟩ := ho2.shape
    have hbs := B.out.size
    replace B := hid (B.out.trans (hb.mono B.out.size))
    replace O := hid (O.out.below hb O.out.lt)
    have G1 := hid ho1
    have G2 := hid ho2
    have k0 := O.out.cell (i := 0) rfl
    have k1 := O.out.cell (i := 1) rfl
    have l0 := O.out.free 0
    have l1 := O.out.free 1
    have F := (O.out.set 0 (.slice xa S.length xc)).set 1 (.slice ya L.length yc)
    have y0 := F.cell (i := 0) rfl
    have y1 := F.cell (i := 1) rfl
    clear F ho1 ho2 hb
    go_wp2_with fail
    refine bodyPost_ret (v := .agg #[.slice xa S.length xc, .slice ya L.length yc]) (by simp [results, Try.results45, go_sem, y0, y1]) rfl ?_
    refine ⟨_, rfl, ⟨_, _, rfl, ?_, ?_⟩, (B.out.setCell (p := ⟨w.heap.size + 1, 0, none⟩) (Nat.le_succ _) _).setCell (p := ⟨w.heap.size + 1, 1, none⟩) (Nat.le_succ _) _⟩
    · exact ((G1.out.setCell_below (a := ⟨w.heap.size + 1, 0, none⟩) hO3 _).setCell_below (a := ⟨w.heap.size + 1, 1, none⟩) hO3 _).mono (by omega)
    · exact ((G2.out.setCell_below (a := ⟨w.heap.size + 1, 0, none⟩) hO3 _).setCell_below (a := ⟨w.heap.size + 1, 1, none⟩) hO3 _).mono (by omega)
  | true =>
    rw [bhS_yes hO1, bhL_yes hO1]
    rw [hO1] at HOK
    have hok := okB_iff hO1
    have hm1 : L.length ≤ 3000 := hok.1.2
    have hn1 : S.length ≤ 1500 := hok.1.1
    have HKK := hid hok
    clear hok
    go_enter Try.func45, Try.ntmps45
    go_wp2_with fail
    refine HOK.out.mono ?_
    generalize (w.alloc _).alloc _ = wa at *
    rintro e w1 ⟨rfl, hb⟩
    replace B := hid (B.out.trans (hb.mono B.out.size))
    replace N := hid (N.out.below hb N.out.lt)
    replace O := hid (O.out.below hb O.out.lt)
    replace V := hid (V.out.below (Nat.le_refl _) hb)
    clear hb q0 q1
    have q0 := N.out.cell (i := 0) rfl
    have q1 := N.out.cell (i := 1) rfl
    have hO3 := O.out.lt
    have hN3 := N.out.lt
    go_wp2_with fail
    clear q0 q1
    refine (open_safe _ S L _ h1 V.out).mono ?_
    rintro e w2 ⟨va, b, rfl, ho, hm, hbb, hb⟩
    obtain ⟨xa, xc, rfl, _, _⟩ := ho.shape
    have hbs := B.out.size
    have hw12 := hb.size
    replace B := hid (B.out.trans (hb.mono B.out.size))
    replace N := hid (N.out.below hb N.out.lt)
    replace O := hid (O.out.below hb O.out.lt)
    clear hb V
    have hb := (Below.refl w2.heap.size w2).alloc (Nat.le_refl _) (.cells #[.slice xa S.length xc, .map (some b)] 78)
    replace B := hid (B.out.trans (hb.mono B.out.size))
    replace N := hid (N.out.below hb N.out.lt)
    replace O := hid (O.out.below hb O.out.lt)
    have G := hid (ho.below hb)
    have M := hid (hm.below hb)
    have X := hid (Blk.new w2 [.slice xa S.length xc, .map (some b)] 78)
    have q1 := N.out.cell (i := 1) rfl
    clear ho hm hb
    have HLE := hid (show ∀ k, (crTo S L kpAll k).length = S.length from crTo_len S L kpAll)
    generalize hM : L.length = m at *
    have HMM := hid hM
    clear hM
    go_wp2_with fail
    clear q1
    have HXN := hid (M.out.ne X.out)
    generalize hW2 : w2.heap.size = g2 at *
    generalize w2.alloc (.cells #[.slice xa S.length xc, .map (some b)] 78) = w3 at *
    have hw3 := X.out.lt
    go_loopw [18] (fun i wr => ∃ k : Nat, k ≤ m ∧ i = .int .i64 k ∧ Hid (MapW wr b k (mbTo L kpAll k)) ∧ Hid (OwG wr w1.heap.size 9 1 (.slice xa S.length xc) S.length (encS (crTo S L kpAll k))) ∧ Hid (Fd (.slice xa S.length xc) b w3 wr)) (fun i _ => m - (intOf i).toNat)
    case atStart => exact ⟨0, by omega, rfl, M.out, G.out, Fd.refl _ _ _⟩
    case round =>
      obtain ⟨k, hk, rfl, hmap, hown, hfd⟩ := hrel
      have HGB := hid (fun g (e : (Value.slice xa S.length xc).ownBlock = some g) => (G.out.2.lt g e).1)
      have HB := hid (hfd.out.below HGB.out hbb (Nat.le_trans hw12 (by omega)))
      have BW := hid (B.out.trans (HB.out.mono hbs))
      have Xr := hid (X.out.fd hfd.out (G.out.tag X.out (by decide)) HXN.out)
      by_cases hlt : k < m
      · obtain ⟨bl, off, rfl, hc1, hc2⟩ := (R2.out.below (Nat.le_refl _) BW.out).atW k (by rw [HMM.out]; exact hlt)
        have hlt' : (k : Int) < (m : Int) := by omega
        have HS := hid (HKK.out.2.2 k (by rw [HMM.out]; exact hlt)).1
        have HMN := hid (show mbTo L kpAll (k + 1) = if kpAll k = true then delF (updF (mbTo L kpAll k) (lAt L k).1 (lAt L k)) (lAt L k).1 else updF (mbTo L kpAll k) (lAt L k).1 (lAt L k) from rfl)
        have HCN := hid (show crTo S L kpAll (k + 1) = if kpAll k = true then (crTo S L kpAll k).set (lAt L k).1.toNat (lAt L k).2 else crTo S L kpAll k from rfl)
        generalize lAt L k = X0 at *
        obtain ⟨x, s⟩ := X0
        simp only at hc1 hc2 HMN HCN
        obtain ⟨j, hjx, hjn⟩ := hasS_nat2 HS.out
        simp only at hjx
        subst hjx
        rw [Int.toNat_natCast] at HCN
        have hx : (Lit.int .i64 (j : Int)).wf = true := WalkArith.wf_i64 (by omega)
        have HW := hid (od_write xa S.length xc b k (mbTo L kpAll k) (j : Int) s (wr.alloc (.cells #[.int .i64 (j : Int), .string s] 69)) (by omega) hx (hmap.out.alloc _))
        have HA := hid (World.grownBy_alloc wr (.cells #[.int .i64 (j : Int), .string s] 69) (some b))
        have T := hid (Blk.new wr [.int .i64 (j : Int), .string s] 69)
        have Xa := hid (Xr.out.alloc (.cells #[.int .i64 (j : Int), .string s] 69))
        have HMA := hid (hmap.out.alloc (.cells #[.int .i64 (j : Int), .string s] 69))
        have HOA := hid (hown.out.alloc (.cells #[.int .i64 (j : Int), .string s] 69))
        have o0 := Xa.out.cell (i := 0) rfl
        have o1 := Xa.out.cell (i := 1) rfl
        have t0 := T.out.cell (i := 0) rfl
        have t1 := T.out.cell (i := 1) rfl
        have HLK := hid (HLE.out k)
        have HRC := hid (fun (a b : Value) => (rfl : a = a))
        clear hx
        go_wp2_with fail
        refine HW.out.mono ?_
        generalize wr.alloc (.cells #[.int .i64 (j : Int), .string s] 69) = wb at *
        rintro e w4 ⟨rfl, hm4, hg4⟩
        have M4 := hid hm4
        have O4 := hid (HOA.out.kept hg4 (HMA.out.neO HOA.out))
        have F4 := hid ((hfd.out.trans (Fd.ofGrown HA.out)).trans (Fd.ofGrown hg4))
        have T4 := hid (T.out.kept hg4 (fun e => HMA.out.ne T.out (Option.some.inj e)))
        have X4 := hid (Xa.out.kept hg4 (fun e => HMA.out.ne Xa.out (Option.some.inj e)))
        have B4 := hid (B.out.trans ((F4.out.below HGB.out hbb (Nat.le_trans hw12 (by omega))).mono hbs))
        clear hm4 hg4 o0 o1 t0 t1
        have HCL := hid (HCLO.out k w4 (by omega) B4.out)
        cases hkp : kpAll k with
        | false =>
          rw [hkp] at HCL HMN HCN
          rw [if_neg (by exact Bool.noConfusion)] at HMN HCN
          go_wp2_with (go_at_call 46; refine HCL.out.mono ?_; rintro e w5 ⟨rfl, rfl⟩)
          go_roundw
          case rel => exact ⟨k + 1, by omega, by go_num, by rw [HMN.out]; exact M4.out, by rw [HCN.out]; exact O4.out, F4.out⟩
          case measure => simp [intOf]; omega
        | true =>
          rw [hkp] at HCL HMN HCN
          rw [if_pos rfl] at HMN HCN
          have HST : Hid (Calls Try.prog 76 #[.agg #[.slice xa S.length xc, .map (some b)], .int .i64 (j : Int)] w4 fun e w' => e = .returned (.tuple #[]) ∧ OwG w' w1.heap.size 9 1 (.slice xa S.length xc) S.length (encS ((crTo S L kpAll k).set j s)) ∧ MapW w' b (k + 1) (delF (updF (mbTo L kpAll k) (j : Int) ((j : Int), s)) (j : Int)) ∧ Fd (.slice xa S.length xc) b w4 w') := hid (by
            have := od_settle xa xc b (k + 1) w1.heap.size (crTo S L kpAll k) (updF (mbTo L kpAll k) (j : Int) ((j : Int), s)) j (j : Int) s w4 (by rw [HLK.out]; exact hjn) (by rw [HLK.out]; exact hn1) (by unfold updF; rw [if_pos rfl]) (by rw [HLK.out]; exact O4.out) M4.out
            rw [HLK.out] at this
            exact this)
          have o0 := X4.out.cell (i := 0) rfl
          have o1 := X4.out.cell (i := 1) rfl
          have t0 := T4.out.cell (i := 0) rfl
          have t1 := T4.out.cell (i := 1) rfl
          go_wp2_with (first
            | (go_at_call 46; refine HCL.out.mono ?_; rintro e w5 ⟨rfl, rfl⟩)
            | (go_at_call 76; refine HST.out.mono ?_; rintro e w6 ⟨rfl, ho6, hm6, hf6⟩; have O6 := hid ho6; have M6 := hid hm6; have F6 := hid (F4.out.trans hf6); clear ho6 hm6 hf6 o0 o1 t0 t1))
          go_roundw
          case rel => exact ⟨k + 1, by omega, by go_num, by rw [HMN.out]; exact M6.out, by rw [HCN.out]; exact O6.out, F6.out⟩
          case measure => simp [intOf]; omega
      · obtain rfl : k = m := by omega
        have Or := hid (O.out.fd hfd.out (fun e => by have := HGB.out _ e.symm; omega) (by omega))
        have o0 := Xr.out.cell (i := 0) rfl
        have o1 := Xr.out.cell (i := 1) rfl
        have HLS := hid (od_lose xa S.length xc b k (mbTo L kpAll k) wr hmap.out)
        have HLK := hid (HLE.out k)
        go_wp2_with fail
        refine HLS.out.mono ?_
        rintro e w4 ⟨rfl, hm4, hg4⟩
        have F4 := hid (hfd.out.trans (Fd.ofGrown hg4))
        have X4 := hid (Xr.out.kept hg4 (fun e => hmap.out.ne Xr.out (Option.some.inj e)))
        have O4 := hid (Or.out.kept hg4 (fun e => hmap.out.ne Or.out (Option.some.inj e)))
        have G4 := hid (hown.out.kept hg4 (hmap.out.neO hown.out))
        have HRA : Hid (Calls Try.prog 49 #[.agg #[.slice xa S.length xc, .map (some b)]] w4 fun e w' => ∃ v', e = .returned v' ∧ OwG w' w4.heap.size 9 1 v' S.length (encS (crTo S L kpAll k)) ∧ Below w4.heap.size w4 w') := hid (by
          have := read_all xa xc b k (crTo S L kpAll k) (fun _ => none) w4 (by rw [HLK.out]; exact hn1) G4.out.rw hm4
          rw [HLK.out, raL_none] at this
          exact this)
        have B4 := hid (B.out.trans ((F4.out.below HGB.out hbb (Nat.le_trans hw12 (by omega))).mono hbs))
        have hO4 := O4.out.lt
        clear hm4 hg4 o0 o1
        have o0 := X4.out.cell (i := 0) rfl
        have o1 := X4.out.cell (i := 1) rfl
        go_wp2_with fail
        clear o0 o1
        refine HRA.out.mono ?_
        rintro e w5 ⟨v5, rfl, ho5, hb5⟩
        obtain ⟨za, zc, rfl, _, _⟩ := ho5.shape
        have O5 := O4.out.below hb5 hO4
        have B5 := hid (B4.out.trans (hb5.mono B4.out.size))
        have hB4 := B4.out.size
        have G5 := hid ho5
        have k0 := O5.cell (i := 0) rfl
        have k1 := O5.cell (i := 1) rfl
        have l0 := O5.free 0
        have l1 := O5.free 1
        have FF := (O5.set 0 (.slice za S.length zc)).set 1 (.slice none 0 0)
        have y0 := FF.cell (i := 0) rfl
        have y1 := FF.cell (i := 1) rfl
        clear FF ho5 hb5 O5
        go_wp2_with fail
        refine bodyPost_ret (v := .agg #[.slice za S.length zc, .slice none 0 0]) (by simp [results, Try.results45, go_sem, y0, y1]) rfl ?_
        refine ⟨_, rfl, ⟨_, _, rfl, ?_, ?_⟩, (B5.out.setCell (p := ⟨w.heap.size + 1, 0, none⟩) (Nat.le_succ _) _).setCell (p := ⟨w.heap.size + 1, 1, none⟩) (Nat.le_succ _) _⟩
        · rw [HMM.out]
          exact (((G5.out.setCell_below (a := ⟨w.heap.size + 1, 0, none⟩) hO4 _).setCell_below (a := ⟨w.heap.size + 1, 1, none⟩) hO4 _).mono hB4).cast HLK.out.symm rfl
        · exact OwG.nil _ _ _ _ (by have := B5.out.size; simpa [World.setCell] using this)

/-- A number is kept. -/
def kpOf (ks : List Int) : Nat → Bool := fun k => decide (k < ks.length) && (ks.getD k 0 != 0)
set_option maxHeartbeats 800000 in
theorem clo_crash (kb : Nat) (ao : Option Addr) (cap : Nat) (ks : List Int) (k : Nat) (w : World) (hk : k ≤ 3000) (hl : ks.length ≤ 1048576) (hb : Blk w kb [.slice ao ks.length cap] 28) (hv : View .i64 w ao ks.length ks) :
    Calls Try.prog 52 #[.int .i64 k, .pointer (some ⟨kb, 0, none⟩)] w fun e w' => e = .returned (.bool (kpOf ks k)) ∧ w = w' := by
  have q0 := hb.cell (i := 0) rfl
  have HR := hid (show kpOf ks k = (decide (k < ks.length) && (ks.getD k 0 != 0)) from rfl)
  have HV := hid hv
  clear hb hv
  generalize kpOf ks k = R at *
  by_cases h : k < ks.length
  · have h' : (k : Int) < (ks.length : Int) := by omega
    obtain ⟨b, off, rfl, hc⟩ := HV.out.2 k h
    rw [decide_eq_true h, Bool.true_and] at HR
    generalize ks.getD k 0 = X at *
    by_cases hx : X = 0
    · subst hx
      go_enter Try.func52, Try.ntmps52
      go_wp2
      go_ret
      exact ⟨ret_bool HR.out.symm, rfl⟩
    · have hx' : (X != 0) = true := by simpa using hx
      rw [hx'] at HR
      go_enter Try.func52, Try.ntmps52
      go_wp2
      go_ret
      exact ⟨ret_bool HR.out.symm, rfl⟩
  · have h' : ¬ (k : Int) < (ks.length : Int) := by omega
    rw [decide_eq_false h, Bool.false_and] at HR
    go_enter Try.func52, Try.ntmps52
    go_wp2
    go_ret
    exact ⟨ret_bool HR.out.symm, rfl⟩

set_option maxRecDepth 100000 in
set_option maxHeartbeats 6400000 in
theorem behind_crash (v : Value) (S : List ByteArray) (L : List (Int × ByteArray)) (kb : Nat) (ao : Option Addr) (cap : Nat) (ks : List Int) (w : World) (h1 : S.length ≤ 1048576) (h2 : L.length ≤ 1048576) (hv : DP w v S L) (hl : ks.length ≤ 1048576) (hkb : Blk w kb [.slice ao ks.length cap] 28) (hkv : View .i64 w ao ks.length ks) :
    Calls Try.prog 45 #[v, .func (.func 52) #[] #[.pointer (some ⟨kb, 0, none⟩)]] w fun e w' => ∃ v', e = .returned v' ∧ DO w' w.heap.size v' (bhS S L (kpOf ks)) (bhL S L) ∧ Below w.heap.size w w' := by
  obtain ⟨a, c, a', c', e0, r1, r2, p1, p2⟩ := id hv
  subst e0
  obtain ⟨n1, n2, n3⟩ := new_two w [.slice a S.length c, .slice a' L.length c'] [.slice none 0 0, .slice none 0 0] 27 27
  have N := hid n1
  have O := hid n2
  have B := hid n3
  have V := hid (hv.below (Nat.le_refl _) n3)
  have R2 := hid r2
  have HOK := hid (impl_ok _ S L _ V.out.dv)
  have HCLO : Hid (∀ (k : Nat) q, k ≤ 3000 → Below w.heap.size w q → Calls Try.prog 52 #[.int .i64 k, .pointer (some ⟨kb, 0, none⟩)] q fun e w' => e = .returned (.bool (kpOf ks k)) ∧ q = w') := hid (fun k q hk hq => clo_crash kb ao cap ks k q hk hl (hkb.below hq hkb.lt) (hkv.below (Nat.le_refl _) hq))
  clear hkb hkv
  clear n1 n2 n3 r1 r2 p1 p2 hv
  have q0 := N.out.cell (i := 0) rfl
  have q1 := N.out.cell (i := 1) rfl
  have hO := O.out.lt
  cases hO1 : okB S L with
  | false =>
    rw [bhS_no hO1, bhL_no hO1]
    rw [hO1] at HOK
    go_enter Try.func45, Try.ntmps45
    go_wp2_with fail
    refine HOK.out.mono ?_
    generalize (w.alloc _).alloc _ = wa at *
    rintro e w1 ⟨rfl, hb⟩
    replace B := hid (B.out.trans (hb.mono B.out.size))
    replace N := hid (N.out.below hb N.out.lt)
    replace O := hid (O.out.below hb O.out.lt)
    replace V := hid (V.out.below (Nat.le_refl _) hb)
    clear hb q0 q1
    have q0 := N.out.cell (i := 0) rfl
    have q1 := N.out.cell (i := 1) rfl
    have hO3 := O.out.lt
    go_wp2_with fail
    clear q0 q1
    refine (copy_disk _ S L _ h1 h2 V.out).mono ?_
    rintro e w2 ⟨v', rfl, ⟨va, vb, rfl, ho1, ho2⟩, hb⟩
    obtain ⟨xa, xc, rfl, _, _⟩ := ho1.shape
    obtain ⟨ya, yc, rfl, _, _⟩ := ho2.shape
    have hbs := B.out.size
    replace B := hid (B.out.trans (hb.mono B.out.size))
    replace O := hid (O.out.below hb O.out.lt)
    have G1 := hid ho1
    have G2 := hid ho2
    have k0 := O.out.cell (i := 0) rfl
    have k1 := O.out.cell (i := 1) rfl
    have l0 := O.out.free 0
    have l1 := O.out.free 1
    have F := (O.out.set 0 (.slice xa S.length xc)).set 1 (.slice ya L.length yc)
    have y0 := F.cell (i := 0) rfl
    have y1 := F.cell (i := 1) rfl
    clear F ho1 ho2 hb
    go_wp2_with fail
    refine bodyPost_ret (v := .agg #[.slice xa S.length xc, .slice ya L.length yc]) (by simp [results, Try.results45, go_sem, y0, y1]) rfl ?_
    refine ⟨_, rfl, ⟨_, _, rfl, ?_, ?_⟩, (B.out.setCell (p := ⟨w.heap.size + 1, 0, none⟩) (Nat.le_succ _) _).setCell (p := ⟨w.heap.size + 1, 1, none⟩) (Nat.le_succ _) _⟩
    · exact ((G1.out.setCell_below (a := ⟨w.heap.size + 1, 0, none⟩) hO3 _).setCell_below (a := ⟨w.heap.size + 1, 1, none⟩) hO3 _).mono (by omega)
    · exact ((G2.out.setCell_below (a := ⟨w.heap.size + 1, 0, none⟩) hO3 _).setCell_below (a := ⟨w.heap.size + 1, 1, none⟩) hO3 _).mono (by omega)
  | true =>
    rw [bhS_yes hO1, bhL_yes hO1]
    rw [hO1] at HOK
    have hok := okB_iff hO1
    have hm1 : L.length ≤ 3000 := hok.1.2
    have hn1 : S.length ≤ 1500 := hok.1.1
    have HKK := hid hok
    clear hok
    go_enter Try.func45, Try.ntmps45
    go_wp2_with fail
    refine HOK.out.mono ?_
    generalize (w.alloc _).alloc _ = wa at *
    rintro e w1 ⟨rfl, hb⟩
    replace B := hid (B.out.trans (hb.mono B.out.size))
    replace N := hid (N.out.below hb N.out.lt)
    replace O := hid (O.out.below hb O.out.lt)
    replace V := hid (V.out.below (Nat.le_refl _) hb)
    clear hb q0 q1
    have q0 := N.out.cell (i := 0) rfl
    have q1 := N.out.cell (i := 1) rfl
    have hO3 := O.out.lt
    have hN3 := N.out.lt
    go_wp2_with fail
    clear q0 q1
    refine (open_safe _ S L _ h1 V.out).mono ?_
    rintro e w2 ⟨va, b, rfl, ho, hm, hbb, hb⟩
    obtain ⟨xa, xc, rfl, _, _⟩ := ho.shape
    have hbs := B.out.size
    have hw12 := hb.size
    replace B := hid (B.out.trans (hb.mono B.out.size))
    replace N := hid (N.out.below hb N.out.lt)
    replace O := hid (O.out.below hb O.out.lt)
    clear hb V
    have hb := (Below.refl w2.heap.size w2).alloc (Nat.le_refl _) (.cells #[.slice xa S.length xc, .map (some b)] 78)
    replace B := hid (B.out.trans (hb.mono B.out.size))
    replace N := hid (N.out.below hb N.out.lt)
    replace O := hid (O.out.below hb O.out.lt)
    have G := hid (ho.below hb)
    have M := hid (hm.below hb)
    have X := hid (Blk.new w2 [.slice xa S.length xc, .map (some b)] 78)
    have q1 := N.out.cell (i := 1) rfl
    clear ho hm hb
    have HLE := hid (show ∀ k, (crTo S L (kpOf ks) k).length = S.length from crTo_len S L (kpOf ks))
    generalize hM : L.length = m at *
    have HMM := hid hM
    clear hM
    go_wp2_with fail
    clear q1
    have HXN := hid (M.out.ne X.out)
    generalize hW2 : w2.heap.size = g2 at *
    generalize w2.alloc (.cells #[.slice xa S.length xc, .map (some b)] 78) = w3 at *
    have hw3 := X.out.lt
    go_loopw [18] (fun i wr => ∃ k : Nat, k ≤ m ∧ i = .int .i64 k ∧ Hid (MapW wr b k (mbTo L (kpOf ks) k)) ∧ Hid (OwG wr w1.heap.size 9 1 (.slice xa S.length xc) S.length (encS (crTo S L (kpOf ks) k))) ∧ Hid (Fd (.slice xa S.length xc) b w3 wr)) (fun i _ => m - (intOf i).toNat)
    case atStart => exact ⟨0, by omega, rfl, M.out, G.out, Fd.refl _ _ _⟩
    case round =>
      obtain ⟨k, hk, rfl, hmap, hown, hfd⟩ := hrel
      have HGB := hid (fun g (e : (Value.slice xa S.length xc).ownBlock = some g) => (G.out.2.lt g e).1)
      have HB := hid (hfd.out.below HGB.out hbb (Nat.le_trans hw12 (by omega)))
      have BW := hid (B.out.trans (HB.out.mono hbs))
      have Xr := hid (X.out.fd hfd.out (G.out.tag X.out (by decide)) HXN.out)
      by_cases hlt : k < m
      · obtain ⟨bl, off, rfl, hc1, hc2⟩ := (R2.out.below (Nat.le_refl _) BW.out).atW k (by rw [HMM.out]; exact hlt)
        have hlt' : (k : Int) < (m : Int) := by omega
        have HS := hid (HKK.out.2.2 k (by rw [HMM.out]; exact hlt)).1
        have HMN := hid (show mbTo L (kpOf ks) (k + 1) = if (kpOf ks) k = true then delF (updF (mbTo L (kpOf ks) k) (lAt L k).1 (lAt L k)) (lAt L k).1 else updF (mbTo L (kpOf ks) k) (lAt L k).1 (lAt L k) from rfl)
        have HCN := hid (show crTo S L (kpOf ks) (k + 1) = if (kpOf ks) k = true then (crTo S L (kpOf ks) k).set (lAt L k).1.toNat (lAt L k).2 else crTo S L (kpOf ks) k from rfl)
        generalize lAt L k = X0 at *
        obtain ⟨x, s⟩ := X0
        simp only at hc1 hc2 HMN HCN
        obtain ⟨j, hjx, hjn⟩ := hasS_nat2 HS.out
        simp only at hjx
        subst hjx
        rw [Int.toNat_natCast] at HCN
        have hx : (Lit.int .i64 (j : Int)).wf = true := WalkArith.wf_i64 (by omega)
        have HW := hid (od_write xa S.length xc b k (mbTo L (kpOf ks) k) (j : Int) s (wr.alloc (.cells #[.int .i64 (j : Int), .string s] 69)) (by omega) hx (hmap.out.alloc _))
        have HA := hid (World.grownBy_alloc wr (.cells #[.int .i64 (j : Int), .string s] 69) (some b))
        have T := hid (Blk.new wr [.int .i64 (j : Int), .string s] 69)
        have Xa := hid (Xr.out.alloc (.cells #[.int .i64 (j : Int), .string s] 69))
        have HMA := hid (hmap.out.alloc (.cells #[.int .i64 (j : Int), .string s] 69))
        have HOA := hid (hown.out.alloc (.cells #[.int .i64 (j : Int), .string s] 69))
        have o0 := Xa.out.cell (i := 0) rfl
        have o1 := Xa.out.cell (i := 1) rfl
        have t0 := T.out.cell (i := 0) rfl
        have t1 := T.out.cell (i := 1) rfl
        have HLK := hid (HLE.out k)
        have HRC := hid (fun (a b : Value) => (rfl : a = a))
        clear hx
        go_wp2_with fail
        refine HW.out.mono ?_
        generalize wr.alloc (.cells #[.int .i64 (j : Int), .string s] 69) = wb at *
        rintro e w4 ⟨rfl, hm4, hg4⟩
        have M4 := hid hm4
        have O4 := hid (HOA.out.kept hg4 (HMA.out.neO HOA.out))
        have F4 := hid ((hfd.out.trans (Fd.ofGrown HA.out)).trans (Fd.ofGrown hg4))
        have T4 := hid (T.out.kept hg4 (fun e => HMA.out.ne T.out (Option.some.inj e)))
        have X4 := hid (Xa.out.kept hg4 (fun e => HMA.out.ne Xa.out (Option.some.inj e)))
        have B4 := hid (B.out.trans ((F4.out.below HGB.out hbb (Nat.le_trans hw12 (by omega))).mono hbs))
        clear hm4 hg4 o0 o1 t0 t1
        have HCL := hid (HCLO.out k w4 (by omega) B4.out)
        cases hkp : (kpOf ks) k with
        | false =>
          rw [hkp] at HCL HMN HCN
          rw [if_neg (by exact Bool.noConfusion)] at HMN HCN
          go_wp2_with (go_at_call 52; refine HCL.out.mono ?_; rintro e w5 ⟨rfl, rfl⟩)
          go_roundw
          case rel => exact ⟨k + 1, by omega, by go_num, by rw [HMN.out]; exact M4.out, by rw [HCN.out]; exact O4.out, F4.out⟩
          case measure => simp [intOf]; omega
        | true =>
          rw [hkp] at HCL HMN HCN
          rw [if_pos rfl] at HMN HCN
          have HST : Hid (Calls Try.prog 76 #[.agg #[.slice xa S.length xc, .map (some b)], .int .i64 (j : Int)] w4 fun e w' => e = .returned (.tuple #[]) ∧ OwG w' w1.heap.size 9 1 (.slice xa S.length xc) S.length (encS ((crTo S L (kpOf ks) k).set j s)) ∧ MapW w' b (k + 1) (delF (updF (mbTo L (kpOf ks) k) (j : Int) ((j : Int), s)) (j : Int)) ∧ Fd (.slice xa S.length xc) b w4 w') := hid (by
            have := od_settle xa xc b (k + 1) w1.heap.size (crTo S L (kpOf ks) k) (updF (mbTo L (kpOf ks) k) (j : Int) ((j : Int), s)) j (j : Int) s w4 (by rw [HLK.out]; exact hjn) (by rw [HLK.out]; exact hn1) (by unfold updF; rw [if_pos rfl]) (by rw [HLK.out]; exact O4.out) M4.out
            rw [HLK.out] at this
            exact this)
          have o0 := X4.out.cell (i := 0) rfl
          have o1 := X4.out.cell (i := 1) rfl
          have t0 := T4.out.cell (i := 0) rfl
          have t1 := T4.out.cell (i := 1) rfl
          go_wp2_with (first
            | (go_at_call 52; refine HCL.out.mono ?_; rintro e w5 ⟨rfl, rfl⟩)
            | (go_at_call 76; refine HST.out.mono ?_; rintro e w6 ⟨rfl, ho6, hm6, hf6⟩; have O6 := hid ho6; have M6 := hid hm6; have F6 := hid (F4.out.trans hf6); clear ho6 hm6 hf6 o0 o1 t0 t1))
          go_roundw
          case rel => exact ⟨k + 1, by omega, by go_num, by rw [HMN.out]; exact M6.out, by rw [HCN.out]; exact O6.out, F6.out⟩
          case measure => simp [intOf]; omega
      · obtain rfl : k = m := by omega
        have Or := hid (O.out.fd hfd.out (fun e => by have := HGB.out _ e.symm; omega) (by omega))
        have o0 := Xr.out.cell (i := 0) rfl
        have o1 := Xr.out.cell (i := 1) rfl
        have HLS := hid (od_lose xa S.length xc b k (mbTo L (kpOf ks) k) wr hmap.out)
        have HLK := hid (HLE.out k)
        go_wp2_with fail
        refine HLS.out.mono ?_
        rintro e w4 ⟨rfl, hm4, hg4⟩
        have F4 := hid (hfd.out.trans (Fd.ofGrown hg4))
        have X4 := hid (Xr.out.kept hg4 (fun e => hmap.out.ne Xr.out (Option.some.inj e)))
        have O4 := hid (Or.out.kept hg4 (fun e => hmap.out.ne Or.out (Option.some.inj e)))
        have G4 := hid (hown.out.kept hg4 (hmap.out.neO hown.out))
        have HRA : Hid (Calls Try.prog 49 #[.agg #[.slice xa S.length xc, .map (some b)]] w4 fun e w' => ∃ v', e = .returned v' ∧ OwG w' w4.heap.size 9 1 v' S.length (encS (crTo S L (kpOf ks) k)) ∧ Below w4.heap.size w4 w') := hid (by
          have := read_all xa xc b k (crTo S L (kpOf ks) k) (fun _ => none) w4 (by rw [HLK.out]; exact hn1) G4.out.rw hm4
          rw [HLK.out, raL_none] at this
          exact this)
        have B4 := hid (B.out.trans ((F4.out.below HGB.out hbb (Nat.le_trans hw12 (by omega))).mono hbs))
        have hO4 := O4.out.lt
        clear hm4 hg4 o0 o1
        have o0 := X4.out.cell (i := 0) rfl
        have o1 := X4.out.cell (i := 1) rfl
        go_wp2_with fail
        clear o0 o1
        refine HRA.out.mono ?_
        rintro e w5 ⟨v5, rfl, ho5, hb5⟩
        obtain ⟨za, zc, rfl, _, _⟩ := ho5.shape
        have O5 := O4.out.below hb5 hO4
        have B5 := hid (B4.out.trans (hb5.mono B4.out.size))
        have hB4 := B4.out.size
        have G5 := hid ho5
        have k0 := O5.cell (i := 0) rfl
        have k1 := O5.cell (i := 1) rfl
        have l0 := O5.free 0
        have l1 := O5.free 1
        have FF := (O5.set 0 (.slice za S.length zc)).set 1 (.slice none 0 0)
        have y0 := FF.cell (i := 0) rfl
        have y1 := FF.cell (i := 1) rfl
        clear FF ho5 hb5 O5
        go_wp2_with fail
        refine bodyPost_ret (v := .agg #[.slice za S.length zc, .slice none 0 0]) (by simp [results, Try.results45, go_sem, y0, y1]) rfl ?_
        refine ⟨_, rfl, ⟨_, _, rfl, ?_, ?_⟩, (B5.out.setCell (p := ⟨w.heap.size + 1, 0, none⟩) (Nat.le_succ _) _).setCell (p := ⟨w.heap.size + 1, 1, none⟩) (Nat.le_succ _) _⟩
        · rw [HMM.out]
          exact (((G5.out.setCell_below (a := ⟨w.heap.size + 1, 0, none⟩) hO4 _).setCell_below (a := ⟨w.heap.size + 1, 1, none⟩) hO4 _).mono hB4).cast HLK.out.symm rfl
        · exact OwG.nil _ _ _ _ (by have := B5.out.size; simpa [World.setCell] using this)

set_option maxRecDepth 100000 in
set_option maxHeartbeats 1600000 in
theorem impl_sync (v : Value) (S : List ByteArray) (L : List (Int × ByteArray)) (w : World) (h1 : S.length ≤ 1048576) (h2 : L.length ≤ 1048576) (hv : DP w v S L) :
    Calls Try.prog 13 #[v] w fun e w' => ∃ v', e = .returned v' ∧ DO w' w.heap.size v' (bhS S L kpAll) (bhL S L) ∧ Below w.heap.size w w' := by
  obtain ⟨a, c, a', c', e0, r1, r2, p1, p2⟩ := id hv
  subst e0
  obtain ⟨n1, n2, n3⟩ := new_two w [.slice a S.length c, .slice a' L.length c'] [.slice none 0 0, .slice none 0 0] 27 27
  have O := hid n2
  have B := hid n3
  have HC := hid (behind_sync _ S L _ h1 h2 (hv.below (Nat.le_refl _) n3))
  have q0 := n1.cell (i := 0) rfl
  have q1 := n1.cell (i := 1) rfl
  clear n1 n2 n3 r1 r2 p1 p2 hv
  generalize bhS S L kpAll = RS at *
  generalize bhL S L = RL at *
  go_enter Try.func13, Try.ntmps13
  go_wp2_with fail
  clear q0 q1
  refine HC.out.mono ?_
  clear HC
  generalize (w.alloc _).alloc _ = wa at *
  have hO := O.out.lt
  rintro e w1 ⟨v1, rfl, ⟨va, vb, rfl, ho1, ho2⟩, hb⟩
  obtain ⟨xa, xc, rfl, _, _⟩ := ho1.shape
  obtain ⟨ya, yc, rfl, _, _⟩ := ho2.shape
  have hbs := B.out.size
  replace B := hid (B.out.trans (hb.mono B.out.size))
  replace O := hid (O.out.below hb hO)
  have G1 := hid ho1
  have G2 := hid ho2
  have k0 := O.out.cell (i := 0) rfl
  have k1 := O.out.cell (i := 1) rfl
  have l0 := O.out.free 0
  have l1 := O.out.free 1
  have F := (O.out.set 0 (.slice xa RS.length xc)).set 1 (.slice ya RL.length yc)
  have y0 := F.cell (i := 0) rfl
  have y1 := F.cell (i := 1) rfl
  clear F ho1 ho2 hb
  go_wp2_with fail
  refine bodyPost_ret (v := .agg #[.slice xa RS.length xc, .slice ya RL.length yc]) (by simp [results, Try.results13, go_sem, y0, y1]) rfl ?_
  refine ⟨_, rfl, ⟨_, _, rfl, ?_, ?_⟩, (B.out.setCell (p := ⟨w.heap.size + 1, 0, none⟩) (Nat.le_succ _) _).setCell (p := ⟨w.heap.size + 1, 1, none⟩) (Nat.le_succ _) _⟩
  · exact ((G1.out.setCell_below (a := ⟨w.heap.size + 1, 0, none⟩) hO _).setCell_below (a := ⟨w.heap.size + 1, 1, none⟩) hO _).mono hbs
  · exact ((G2.out.setCell_below (a := ⟨w.heap.size + 1, 0, none⟩) hO _).setCell_below (a := ⟨w.heap.size + 1, 1, none⟩) hO _).mono hbs

set_option maxRecDepth 100000 in
set_option maxHeartbeats 1600000 in
theorem impl_crash (v : Value) (S : List ByteArray) (L : List (Int × ByteArray)) (ao : Option Addr) (cap : Nat) (ks : List Int) (w : World) (h1 : S.length ≤ 1048576) (h2 : L.length ≤ 1048576) (hv : DP w v S L) (hl : ks.length ≤ 1048576) (hkv : View .i64 w ao ks.length ks) :
    Calls Try.prog 18 #[v, .slice ao ks.length cap] w fun e w' => ∃ v', e = .returned v' ∧ DO w' w.heap.size v' (bhS S L (kpOf ks)) (bhL S L) ∧ Below w.heap.size w w' := by
  obtain ⟨a, c, a', c', e0, r1, r2, p1, p2⟩ := id hv
  subst e0
  obtain ⟨n1, n2, n3, n4⟩ := new_three w [.slice a S.length c, .slice a' L.length c'] [.slice ao ks.length cap] [.slice none 0 0, .slice none 0 0] 27 28 27
  have O := hid n3
  have B := hid n4
  have HC := hid (behind_crash _ S L (w.heap.size + 1) ao cap ks _ h1 h2 (hv.below (Nat.le_refl _) n4) hl n2 (hkv.below (Nat.le_refl _) n4))
  have q0 := n1.cell (i := 0) rfl
  have q1 := n1.cell (i := 1) rfl
  have hmf : ∀ (fn : Fn) (first cap : Array Value) (w : World), (Instr.makeFunc fn first cap).run Try.prog w = .ok (.func fn first cap) w := fun _ _ _ _ => rfl
  clear n1 n2 n3 n4 r1 r2 p1 p2 hv hkv
  generalize bhS S L (kpOf ks) = RS at *
  generalize bhL S L = RL at *
  go_enter Try.func18, Try.ntmps18
  go_wp2_with fail
  clear q0 q1
  refine HC.out.mono ?_
  clear HC
  generalize ((w.alloc _).alloc _).alloc _ = wa at *
  have hO := O.out.lt
  rintro e w1 ⟨v1, rfl, ⟨va, vb, rfl, ho1, ho2⟩, hb⟩
  obtain ⟨xa, xc, rfl, _, _⟩ := ho1.shape
  obtain ⟨ya, yc, rfl, _, _⟩ := ho2.shape
  have hbs := B.out.size
  replace B := hid (B.out.trans (hb.mono B.out.size))
  replace O := hid (O.out.below hb hO)
  have G1 := hid ho1
  have G2 := hid ho2
  have k0 := O.out.cell (i := 0) rfl
  have k1 := O.out.cell (i := 1) rfl
  have l0 := O.out.free 0
  have l1 := O.out.free 1
  have F := (O.out.set 0 (.slice xa RS.length xc)).set 1 (.slice ya RL.length yc)
  have y0 := F.cell (i := 0) rfl
  have y1 := F.cell (i := 1) rfl
  clear F ho1 ho2 hb
  go_wp2_with fail
  refine bodyPost_ret (v := .agg #[.slice xa RS.length xc, .slice ya RL.length yc]) (by simp [results, Try.results18, go_sem, y0, y1]) rfl ?_
  have hle : w.heap.size ≤ w.heap.size + 1 + 1 := by omega
  refine ⟨_, rfl, ⟨_, _, rfl, ?_, ?_⟩, (B.out.setCell (p := ⟨w.heap.size + 1 + 1, 0, none⟩) hle _).setCell (p := ⟨w.heap.size + 1 + 1, 1, none⟩) hle _⟩
  · exact ((G1.out.setCell_below (a := ⟨w.heap.size + 1 + 1, 0, none⟩) hO _).setCell_below (a := ⟨w.heap.size + 1 + 1, 1, none⟩) hO _).mono hbs
  · exact ((G2.out.setCell_below (a := ⟨w.heap.size + 1 + 1, 0, none⟩) hO _).setCell_below (a := ⟨w.heap.size + 1 + 1, 1, none⟩) hO _).mono hbs
end Go.Proofs.Ytphhgfgmlfdkiaa
