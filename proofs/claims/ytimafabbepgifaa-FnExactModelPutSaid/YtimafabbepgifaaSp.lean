/- The contract of the specification's CoderPut. -/
import Derived.Test.YtimafabbepgifaaCo
import Derived.Deep.CutRange
namespace Go.Proofs.Ytimafabbepgifaa
open Go.RowKit
set_option linter.unusedVariables false

/-- A coder as a value. -/
def cV (lo hi : Int) (s : ByteArray) : Value := .agg #[.int .u32 lo, .int .u32 hi, .string s]
/-- What CoderPut answers. -/
def cRes (lo hi : Int) (s : ByteArray) (bit p : Int) : Value :=
  if okPut lo hi bit p s.size = true then cV (cPut lo hi bit p).2.1 (cPut lo hi bit p).2.2 (s ++ strOfNums (cPut lo hi bit p).1) else cV lo hi s
theorem strOf_app (a b : List Int) : strOfNums (a ++ b) = strOfNums a ++ strOfNums b := by
  apply ByteArray.ext
  simp [strOfNums]
theorem strOf_size (a : List Int) : (strOfNums a).size = a.length := by simp [strOfNums, ByteArray.size]
theorem cat_assoc (a b c : ByteArray) : a ++ b ++ c = a ++ (b ++ c) := by
  apply ByteArray.ext
  simp
theorem cat_size (a b : ByteArray) : (a ++ b).size = a.size + b.size := by simp
theorem cat_nil (a : ByteArray) : a ++ strOfNums [] = a := by
  apply ByteArray.ext
  simp [strOfNums]
theorem conv1 (w : World) (a : Int) : Sem.run Try.prog (convert 22 9 (.slice (some ⟨w.heap.size, 0, none⟩) 1 1)) (w.alloc (.cells #[.int .u8 a] 5)) =
    .ok (.string (strOfNums [a])) (w.alloc (.cells #[.int .u8 a] 5)) := by
  refine run_convert_bytes_arg _ 22 5 Try.underlying22 Try.underlying5 _ 0 1 1 [a] rfl ?_ 9 Try.underlying9
  intro i hi
  match i, hi with
  | 0, _ => simp

def wInt (w : World) (b i : Nat) : Int := intOf ((w.cell? ⟨b, i, none⟩).getD (.int .i64 0))
theorem Blk.ints {w : World} {b : Nat} {lo hi : Int} {r : List Value} {t : TypeId} (h : Blk w b (.int .u32 lo :: .int .u32 hi :: r) t) : wInt w b 0 = lo ∧ wInt w b 1 = hi := by
  unfold wInt
  rw [h.cell (i := 0) rfl, h.cell (i := 1) rfl]
  exact ⟨rfl, rfl⟩

set_option maxRecDepth 100000 in
set_option maxHeartbeats 1600000 in
theorem spec_put_no (lo hi : Int) (s : ByteArray) (bit p : Int) (w : World) (hl : W32 lo) (hh : W32 hi) (hs : s.size ≤ 1048576) (hno : okPut lo hi bit p s.size = false) :
    Calls Try.prog 76 #[cV lo hi s, .int .i64 bit, .int .i64 p] w fun e w' => e = .returned (cV lo hi s) ∧ Below w.heap.size w w' := by
  have HB := hid (fun q => spec_in bit 0 1 q)
  have HC := hid (fun q => spec_ch p q)
  unfold okPut at hno
  replace hno := of_decide_eq_false hno
  have BE := hid (((Below.refl w.heap.size w).alloc (Nat.le_refl _) (.cells #[.int .u32 lo, .int .u32 hi, .string s] 32)).alloc (by simp) (.cells #[.int .u32 lo, .int .u32 hi, .string s] 32))
  by_cases h1 : 0 ≤ bit ∧ bit ≤ 1
  · have HB' : Hid (∀ q, Calls Try.prog 51 #[.int .i64 bit, .int .i64 0, .int .i64 1] q fun e w' => e = .returned (.bool true) ∧ q = w') := fun q => by have := HB.out q; rw [decide_eq_true h1] at this; exact this
    by_cases h2 : 1 ≤ p ∧ p ≤ 4095
    · have HC' : Hid (∀ q, Calls Try.prog 72 #[.int .i64 p] q fun e w' => e = .returned (.bool true) ∧ q = w') := fun q => by have := HC.out q; rw [show isCh p = true from decide_eq_true h2] at this; exact this
      by_cases h3 : lo ≤ hi
      · have h4 : (60000 : Int) ≤ (s.size : Int) := by
          have : ¬ s.size < 60000 := fun h => hno ⟨h1, h2, h3, h⟩
          omega
        have h5 : ¬ hi < lo := by omega
        clear hno HB HC
        unfold cV
        go_enter Try.func76, Try.ntmps76
        go_wp2_with (first | (go_at_call 51; refine (HB'.out _).mono ?_; rintro e w1 ⟨rfl, rfl⟩) | (go_at_call 72; refine (HC'.out _).mono ?_; rintro e w1 ⟨rfl, rfl⟩))
        refine bodyPost_ret (v := .agg #[.int .u32 lo, .int .u32 hi, .string s]) (by simp [results, Try.results76, go_sem]) rfl ?_
        exact ⟨rfl, BE.out⟩
      · have h5 : hi < lo := by omega
        clear hno HB HC
        unfold cV
        go_enter Try.func76, Try.ntmps76
        go_wp2_with (first | (go_at_call 51; refine (HB'.out _).mono ?_; rintro e w1 ⟨rfl, rfl⟩) | (go_at_call 72; refine (HC'.out _).mono ?_; rintro e w1 ⟨rfl, rfl⟩))
        refine bodyPost_ret (v := .agg #[.int .u32 lo, .int .u32 hi, .string s]) (by simp [results, Try.results76, go_sem]) rfl ?_
        exact ⟨rfl, BE.out⟩
    · have HC' : Hid (∀ q, Calls Try.prog 72 #[.int .i64 p] q fun e w' => e = .returned (.bool false) ∧ q = w') := fun q => by have := HC.out q; rw [show isCh p = false from decide_eq_false h2] at this; exact this
      clear hno HB HC
      unfold cV
      go_enter Try.func76, Try.ntmps76
      go_wp2_with (first | (go_at_call 51; refine (HB'.out _).mono ?_; rintro e w1 ⟨rfl, rfl⟩) | (go_at_call 72; refine (HC'.out _).mono ?_; rintro e w1 ⟨rfl, rfl⟩))
      refine bodyPost_ret (v := .agg #[.int .u32 lo, .int .u32 hi, .string s]) (by simp [results, Try.results76, go_sem]) rfl ?_
      exact ⟨rfl, BE.out⟩
  · have HB' : Hid (∀ q, Calls Try.prog 51 #[.int .i64 bit, .int .i64 0, .int .i64 1] q fun e w' => e = .returned (.bool false) ∧ q = w') := fun q => by have := HB.out q; rw [decide_eq_false h1] at this; exact this
    clear hno HB HC
    unfold cV
    go_enter Try.func76, Try.ntmps76
    go_wp2_with (first | (go_at_call 51; refine (HB'.out _).mono ?_; rintro e w1 ⟨rfl, rfl⟩))
    refine bodyPost_ret (v := .agg #[.int .u32 lo, .int .u32 hi, .string s]) (by simp [results, Try.results76, go_sem]) rfl ?_
    exact ⟨rfl, BE.out⟩

theorem spec_top0 (lo hi : Int) (w : World) (hl : W32 lo) (hh : W32 hi) :
    Calls Try.prog 100 #[.int .u32 lo, .int .u32 hi] w fun e w' => e = .returned (.bool (decide (top lo = top hi))) ∧ w = w' := by
  have hl0 := hl.1
  have hl1 := hl.2
  have hh0 := hh.1
  have hh1 := hh.2
  clear hl hh
  go_enter Try.func100, Try.ntmps100
  go_wp2_with fail
  go_ret
  exact ⟨ret_bool (by unfold top; rfl), rfl⟩

theorem two_new (w : World) (a b c d e f : Value) : Blk ((w.alloc (.cells #[a, b, c] 32)).alloc (.cells #[d, e, f] 32)) w.heap.size [a, b, c] 32 ∧ Blk ((w.alloc (.cells #[a, b, c] 32)).alloc (.cells #[d, e, f] 32)) (w.heap.size + 1) [d, e, f] 32 ∧ Below w.heap.size w ((w.alloc (.cells #[a, b, c] 32)).alloc (.cells #[d, e, f] 32)) := by
  refine ⟨(Blk.new w [a, b, c] 32).below ((Below.refl (w.alloc (.cells #[a, b, c] 32)).heap.size (w.alloc (.cells #[a, b, c] 32))).alloc (Nat.le_refl _) (.cells #[d, e, f] 32)) (by simp), ?_, ((Below.refl w.heap.size w).alloc (Nat.le_refl _) _).alloc (by simp) _⟩
  have := Blk.new (w.alloc (.cells #[a, b, c] 32)) [d, e, f] 32
  rw [show (w.alloc (.cells #[a, b, c] 32)).heap.size = w.heap.size + 1 by simp] at this
  exact this

/-- What one round of the specification's shifts comes to. -/
theorem sput_round {w wr Wz : World} {B : Nat} {l h : Int} {s : ByteArray} {acc : List Int} {PP : List Int × Int × Int} {lo' hi' : Int} {S : ByteArray} (hrec : Hid (W32 l ∧ W32 h ∧ PP = (acc ++ (cN l h).1, (cN l h).2))) (he : top l = top h)
    (hBl : Blk wr B [.int .u32 l, .int .u32 h, .string (s ++ strOfNums acc)] 32) (hA : Blk Wz B [.int .u32 lo', .int .u32 hi', .string S] 32) (hR : Blk Wz (B + 1) [.int .u32 0, .int .u32 0, .string ⟨#[]⟩] 32) (hb : Below B w Wz) (h1 : lo' = sl l) (h2 : hi' = sh h) (h3 : S = s ++ strOfNums acc ++ strOfNums [top l]) :
    (∃ l h acc_1, Hid (W32 l ∧ W32 h ∧ PP = (acc_1 ++ (cN l h).1, (cN l h).2)) ∧ Blk Wz B [.int .u32 l, .int .u32 h, .string (s ++ strOfNums acc_1)] 32 ∧ Blk Wz (B + 1) [.int .u32 0, .int .u32 0, .string ⟨#[]⟩] 32 ∧ Below B w Wz) ∧
    (cN (wInt Wz B 0) (wInt Wz B 1)).1.length < (cN (wInt wr B 0) (wInt wr B 1)).1.length := by
  subst h1 h2 h3
  have hA' : Blk Wz B [.int .u32 (sl l), .int .u32 (sh h), .string (s ++ strOfNums (acc ++ [top l]))] 32 := by
    rw [strOf_app, ← cat_assoc]
    exact hA
  refine ⟨⟨sl l, sh h, acc ++ [top l], ⟨sl_word l, sh_word h, ?_⟩, hA', hR, hb⟩, ?_⟩
  · have := hrec.out.2.2
    rw [cN_yes he] at this
    rw [this]
    simp
  · rw [hA'.ints.1, hA'.ints.2, hBl.ints.1, hBl.ints.2, cN_yes he]
    simp
theorem sput_world {w wr : World} {B : Nat} {a b c a' b' c' d e f : Value} (hA : Blk wr B [a, b, c] 32) (hR : Blk wr (B + 1) [d, e, f] 32) (hb : Below B w wr) (o : Obj) :
    Blk ((((wr.setCell ⟨B, 2, none⟩ c').setCell ⟨B, 0, none⟩ a').setCell ⟨B, 1, none⟩ b').alloc o) B [a', b', c'] 32 ∧ Blk ((((wr.setCell ⟨B, 2, none⟩ c').setCell ⟨B, 0, none⟩ a').setCell ⟨B, 1, none⟩ b').alloc o) (B + 1) [d, e, f] 32 ∧ Below B w ((((wr.setCell ⟨B, 2, none⟩ c').setCell ⟨B, 0, none⟩ a').setCell ⟨B, 1, none⟩ b').alloc o) := by
  have h1 := ((hA.set 2 c').set 0 a').set 1 b'
  have h2 := ((hR.other (a := ⟨B, 2, none⟩) (Nat.succ_ne_self B) c').other (a := ⟨B, 0, none⟩) (Nat.succ_ne_self B) a').other (a := ⟨B, 1, none⟩) (Nat.succ_ne_self B) b'
  have h3 := ((hb.setCell (p := ⟨B, 2, none⟩) (Nat.le_refl _) c').setCell (p := ⟨B, 0, none⟩) (Nat.le_refl _) a').setCell (p := ⟨B, 1, none⟩) (Nat.le_refl _) b'
  have h4 := (Below.refl _ (((wr.setCell ⟨B, 2, none⟩ c').setCell ⟨B, 0, none⟩ a').setCell ⟨B, 1, none⟩ b')).alloc (Nat.le_refl _) o
  exact ⟨h1.below h4 h1.lt, h2.below h4 h2.lt, h3.trans (h4.mono (Nat.le_of_lt h1.lt))⟩

set_option maxRecDepth 100000 in
set_option maxHeartbeats 1600000 in
theorem spec_put_yes (lo hi : Int) (s : ByteArray) (bit p : Int) (w : World) (hl : W32 lo) (hh : W32 hi) (hok : okPut lo hi bit p s.size = true) :
    Calls Try.prog 76 #[cV lo hi s, .int .i64 bit, .int .i64 p] w fun e w' => e = .returned (cV (cPut lo hi bit p).2.1 (cPut lo hi bit p).2.2 (s ++ strOfNums (cPut lo hi bit p).1)) ∧ Below w.heap.size w w' := by
  unfold okPut at hok
  obtain ⟨h1, h2, h3, h4⟩ := of_decide_eq_true hok
  have HB : Hid (∀ q, Calls Try.prog 51 #[.int .i64 bit, .int .i64 0, .int .i64 1] q fun e w' => e = .returned (.bool true) ∧ q = w') := fun q => by have := spec_in bit 0 1 q; rw [decide_eq_true h1] at this; exact this
  have HC : Hid (∀ q, Calls Try.prog 72 #[.int .i64 p] q fun e w' => e = .returned (.bool true) ∧ q = w') := fun q => by have := spec_ch p q; rw [show isCh p = true from decide_eq_true h2] at this; exact this
  have HM := hid (fun q => spec_mid lo hi p q hl hh)
  have hm := cMid_word (p := p) hl hh
  have h5 : ¬ hi < lo := by omega
  have H4 := hid h4
  have h6 : decide ((60000 : Int) ≤ (s.size : Int)) = false := decide_eq_false (by omega)
  have HP := hid (show cPut lo hi bit p = cN (nLo lo hi bit p) (nHi lo hi bit p) from rfl)
  have HPL := hid (show (cPut lo hi bit p).1.length ≤ 4 from cN_len _ _)
  have HL := hid (nLo_word (b := bit) (p := p) hl hh)
  have HH := hid (nHi_word (b := bit) (p := p) hl hh)
  have hm0 := hm.1
  have hm1 := hm.2
  have BIT : bit = 0 ∨ bit = 1 := by omega
  have HN0 : bit = 0 → Hid ((cMid lo hi p + 1) % 4294967296 = nLo lo hi bit p ∧ hi = nHi lo hi bit p) := fun e => ⟨by unfold nLo; simp [e], by unfold nHi; simp [e]⟩
  have HN1 : bit = 1 → Hid (lo = nLo lo hi bit p ∧ cMid lo hi p = nHi lo hi bit p) := fun e => ⟨by unfold nLo; simp [e], by unfold nHi; simp [e]⟩
  generalize cPut lo hi bit p = PP at *
  generalize nLo lo hi bit p = L at *
  generalize nHi lo hi bit p = H at *
  generalize cMid lo hi p = M at *
  clear hok hm hl hh h1 h2 h4
  unfold cV
  go_enter Try.func76, Try.ntmps76
  rcases BIT with rfl | rfl
  · have HN := HN0 rfl
    clear HN0 HN1
    go_wp2_with (first | (go_at_call 51; refine (HB.out _).mono ?_; rintro e w1 ⟨rfl, rfl⟩) | (go_at_call 72; refine (HC.out _).mono ?_; rintro e w1 ⟨rfl, rfl⟩) | (go_at_call 99; refine (HM.out _).mono ?_; rintro e w1 ⟨rfl, rfl⟩))
    go_loopw [] (fun wr => ∃ (l h : Int) (acc : List Int), Hid (W32 l ∧ W32 h ∧ PP = (acc ++ (cN l h).1, (cN l h).2)) ∧ Blk wr w.heap.size [.int .u32 l, .int .u32 h, .string (s ++ strOfNums acc)] 32 ∧ Blk wr (w.heap.size + 1) [.int .u32 0, .int .u32 0, .string ⟨#[]⟩] 32 ∧ Below w.heap.size w wr) (fun wr => (cN (wInt wr w.heap.size 0) (wInt wr w.heap.size 1)).1.length)
    case atStart =>
      refine ⟨L, H, [], ⟨HL.out, HH.out, by rw [HP.out]; rfl⟩, ?_, (two_new w _ _ _ _ _ _).2.1, (two_new w _ _ _ _ _ _).2.2⟩
      rw [cat_nil, ← HN.out.1, ← HN.out.2]
      exact (two_new w _ _ _ _ _ _).1
    case round =>
      obtain ⟨l, h, acc, hrec, hB0, hB1, hBr⟩ := hrel
      clear HL HH HP HB HC HM HN
      have hacc : acc.length ≤ 4 := by
        have h1 := congrArg (fun z => z.1.length) hrec.out.2.2
        have h2 := HPL.out
        simp only [List.length_append] at h1
        omega
      have HS := hid (spec_top0 l h wr hrec.out.1 hrec.out.2.1)
      have b0 := hid hB0
      have b1 := hid hB1
      have q0 := hB0.cell (i := 0) rfl
      have q1 := hB0.cell (i := 1) rfl
      have q2 := hB0.cell (i := 2) rfl
      have r0 := hB1.cell (i := 0) rfl
      have r1 := hB1.cell (i := 1) rfl
      have r2 := hB1.cell (i := 2) rfl
      have z0 := hB0.free 0
      have z1 := hB0.free 1
      have z2 := hB0.free 2
      have y0 := hB1.free 0
      have y1 := hB1.free 1
      have y2 := hB1.free 2
      have hlt0 : w.heap.size < wr.heap.size := hB0.lt
      have hne0 : ¬ w.heap.size = wr.heap.size := Nat.ne_of_lt hB0.lt
      have HBr := hid hBr
      have hl0 := hrec.out.1.1
      have hl1 := hrec.out.1.2
      have hh0 := hrec.out.2.1.1
      have hh1 := hrec.out.2.1.2
      have HSL := hid (show l * 256 % 4294967296 = sl l from sl_val hl0 hl1)
      have HSH := hid (show h * 256 % 4294967296 + 255 = sh h from by unfold sh; omega)
      have hsz : ¬ 9223372036854775807 < (s ++ strOfNums acc).size + (strOfNums [top l]).size := by
        rw [cat_size, strOf_size, strOf_size]
        have := H4.out
        simp
        omega
      clear hB0 hB1 hBr h6 hacc
      by_cases e : top l = top h
      · have hd : decide (top l = top h) = true := decide_eq_true e
        rw [hd] at HS
        have HE := hid e
        have HT : Hid (top l = l / 16777216) := rfl
        clear hd e
        have hc := conv1 wr (top l)
        rw [HT.out] at hc hsz
        go_wp2_with fail
        refine HS.out.mono ?_
        rintro e w2 ⟨rfl, rfl⟩
        go_wp2_with fail
        have HW := sput_world (a' := .int .u32 (l * 256 % 4294967296)) (b' := .int .u32 (h * 256 % 4294967296 + 255)) (c' := .string (s ++ strOfNums acc ++ strOfNums [l / 16777216])) b0.out b1.out HBr.out (.cells #[.int .u8 (l / 16777216)] 5)
        exact sput_round hrec HE.out b0.out HW.1 HW.2.1 HW.2.2 HSL.out HSH.out (by rw [HT.out])
      · have hd : decide (top l = top h) = false := decide_eq_false e
        rw [hd] at HS
        have HE := hid e
        clear hd e
        go_wp2_with fail
        refine HS.out.mono ?_
        rintro e w2 ⟨rfl, rfl⟩
        go_wp2_with fail
        have h9 := hrec.out.2.2
        rw [cN_no HE.out] at h9
        simp only [List.append_nil] at h9
        rw [h9]
        refine bodyPost_ret (v := .agg #[.int .u32 l, .int .u32 h, .string (s ++ strOfNums acc)]) (by simp [results, Try.results76, go_sem, r0, r1, r2]) rfl ?_
        exact ⟨rfl, ((HBr.out.setCell (p := ⟨w.heap.size + 1, 0, none⟩) (Nat.le_succ _) _).setCell (p := ⟨w.heap.size + 1, 1, none⟩) (Nat.le_succ _) _).setCell (p := ⟨w.heap.size + 1, 2, none⟩) (Nat.le_succ _) _⟩
  · have HN := HN1 rfl
    clear HN0 HN1
    go_wp2_with (first | (go_at_call 51; refine (HB.out _).mono ?_; rintro e w1 ⟨rfl, rfl⟩) | (go_at_call 72; refine (HC.out _).mono ?_; rintro e w1 ⟨rfl, rfl⟩) | (go_at_call 99; refine (HM.out _).mono ?_; rintro e w1 ⟨rfl, rfl⟩))
    go_loopw [] (fun wr => ∃ (l h : Int) (acc : List Int), Hid (W32 l ∧ W32 h ∧ PP = (acc ++ (cN l h).1, (cN l h).2)) ∧ Blk wr w.heap.size [.int .u32 l, .int .u32 h, .string (s ++ strOfNums acc)] 32 ∧ Blk wr (w.heap.size + 1) [.int .u32 0, .int .u32 0, .string ⟨#[]⟩] 32 ∧ Below w.heap.size w wr) (fun wr => (cN (wInt wr w.heap.size 0) (wInt wr w.heap.size 1)).1.length)
    case atStart =>
      refine ⟨L, H, [], ⟨HL.out, HH.out, by rw [HP.out]; rfl⟩, ?_, (two_new w _ _ _ _ _ _).2.1, (two_new w _ _ _ _ _ _).2.2⟩
      rw [cat_nil, ← HN.out.1, ← HN.out.2]
      exact (two_new w _ _ _ _ _ _).1
    case round =>
      obtain ⟨l, h, acc, hrec, hB0, hB1, hBr⟩ := hrel
      clear HL HH HP HB HC HM HN
      have hacc : acc.length ≤ 4 := by
        have h1 := congrArg (fun z => z.1.length) hrec.out.2.2
        have h2 := HPL.out
        simp only [List.length_append] at h1
        omega
      have HS := hid (spec_top0 l h wr hrec.out.1 hrec.out.2.1)
      have b0 := hid hB0
      have b1 := hid hB1
      have q0 := hB0.cell (i := 0) rfl
      have q1 := hB0.cell (i := 1) rfl
      have q2 := hB0.cell (i := 2) rfl
      have r0 := hB1.cell (i := 0) rfl
      have r1 := hB1.cell (i := 1) rfl
      have r2 := hB1.cell (i := 2) rfl
      have z0 := hB0.free 0
      have z1 := hB0.free 1
      have z2 := hB0.free 2
      have y0 := hB1.free 0
      have y1 := hB1.free 1
      have y2 := hB1.free 2
      have hlt0 : w.heap.size < wr.heap.size := hB0.lt
      have hne0 : ¬ w.heap.size = wr.heap.size := Nat.ne_of_lt hB0.lt
      have HBr := hid hBr
      have hl0 := hrec.out.1.1
      have hl1 := hrec.out.1.2
      have hh0 := hrec.out.2.1.1
      have hh1 := hrec.out.2.1.2
      have HSL := hid (show l * 256 % 4294967296 = sl l from sl_val hl0 hl1)
      have HSH := hid (show h * 256 % 4294967296 + 255 = sh h from by unfold sh; omega)
      have hsz : ¬ 9223372036854775807 < (s ++ strOfNums acc).size + (strOfNums [top l]).size := by
        rw [cat_size, strOf_size, strOf_size]
        have := H4.out
        simp
        omega
      clear hB0 hB1 hBr h6 hacc
      by_cases e : top l = top h
      · have hd : decide (top l = top h) = true := decide_eq_true e
        rw [hd] at HS
        have HE := hid e
        have HT : Hid (top l = l / 16777216) := rfl
        clear hd e
        have hc := conv1 wr (top l)
        rw [HT.out] at hc hsz
        go_wp2_with fail
        refine HS.out.mono ?_
        rintro e w2 ⟨rfl, rfl⟩
        go_wp2_with fail
        have HW := sput_world (a' := .int .u32 (l * 256 % 4294967296)) (b' := .int .u32 (h * 256 % 4294967296 + 255)) (c' := .string (s ++ strOfNums acc ++ strOfNums [l / 16777216])) b0.out b1.out HBr.out (.cells #[.int .u8 (l / 16777216)] 5)
        exact sput_round hrec HE.out b0.out HW.1 HW.2.1 HW.2.2 HSL.out HSH.out (by rw [HT.out])
      · have hd : decide (top l = top h) = false := decide_eq_false e
        rw [hd] at HS
        have HE := hid e
        clear hd e
        go_wp2_with fail
        refine HS.out.mono ?_
        rintro e w2 ⟨rfl, rfl⟩
        go_wp2_with fail
        have h9 := hrec.out.2.2
        rw [cN_no HE.out] at h9
        simp only [List.append_nil] at h9
        rw [h9]
        refine bodyPost_ret (v := .agg #[.int .u32 l, .int .u32 h, .string (s ++ strOfNums acc)]) (by simp [results, Try.results76, go_sem, r0, r1, r2]) rfl ?_
        exact ⟨rfl, ((HBr.out.setCell (p := ⟨w.heap.size + 1, 0, none⟩) (Nat.le_succ _) _).setCell (p := ⟨w.heap.size + 1, 1, none⟩) (Nat.le_succ _) _).setCell (p := ⟨w.heap.size + 1, 2, none⟩) (Nat.le_succ _) _⟩

theorem spec_put (lo hi : Int) (s : ByteArray) (bit p : Int) (w : World) (hl : W32 lo) (hh : W32 hi) (hs : s.size ≤ 1048576) :
    Calls Try.prog 76 #[cV lo hi s, .int .i64 bit, .int .i64 p] w fun e w' => e = .returned (cRes lo hi s bit p) ∧ Below w.heap.size w w' := by
  unfold cRes
  by_cases h : okPut lo hi bit p s.size = true
  · rw [if_pos h]
    exact spec_put_yes lo hi s bit p w hl hh h
  · rw [if_neg h]
    exact spec_put_no lo hi s bit p w hl hh hs (by simpa using h)
end Go.Proofs.Ytimafabbepgifaa
