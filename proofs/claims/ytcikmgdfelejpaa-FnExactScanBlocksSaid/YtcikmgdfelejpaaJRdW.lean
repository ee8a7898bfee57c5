/- The contract of ScanBlocks of the program. -/
import Derived.Test.YtcikmgdfelejpaaJRdO
namespace Go.Proofs.Ytcikmgdfelejpaa
open Go.RowKit Go.Maps
set_option linter.unusedVariables false

theorem IsB.one {T : Tb} {xs : List Int} {i : Nat} {ah d d' : Int} {ac ac' : List Int} {p p' : Nat} (h : IsB T xs i ah d ac p) (g : IsB T xs i ah d' ac' p') : d = d' ∧ ac = ac' ∧ p = p' := by
  obtain ⟨x, n, h1, rfl, _, h2⟩ := h
  obtain ⟨x', n', g1, rfl, _, g2⟩ := g
  rw [h1] at g1
  cases g1
  exact ⟨rfl, h2.one g2⟩
theorem takeR_grow {st st' : List Int × Bool} {s : Int × Int × List Int} (h : takeR st s = some st') (hl : st.1.length ≤ 63) : st.1.length < st'.1.length ∧ st'.1.length ≤ 63 := by
  unfold takeR at h
  split at h
  · cases h
  · rename_i h1
    have h63 : st.1.length ≠ 63 := fun e => h1 (.inr e)
    split at h
    · cases h
    · rename_i h2
      split at h
      · split at h
        · cases h
          simp only [List.length_append, List.length_replicate, List.length_cons, List.length_nil]
          omega
        · cases h
      · split at h
        · split at h
          · cases h
            simp only [List.length_append, List.length_replicate]
            omega
          · cases h
        · split at h
          · split at h
            · cases h
            · cases h
              simp only [List.length_append, List.length_replicate]
              omega
          · cases h
theorem readTo_grow {L : List (Int × Int × List Int)} : ∀ {k : Nat} {st : List Int × Bool}, readTo L k = some st → k ≤ st.1.length ∧ st.1.length ≤ 63
  | 0, st, h => by cases h; simp
  | k + 1, st, h => by
    cases hk : readTo L k with
    | none => rw [readTo, hk] at h; cases h
    | some a =>
      obtain ⟨h1, h2⟩ := readTo_grow hk
      have h' : takeR a (nthS L k) = some st := by rw [readTo, hk] at h; exact h
      obtain ⟨h3, h4⟩ := takeR_grow h' h2
      omega
/-- The numbers of the block whose steps stand from a place on, its steps being k. -/
def goodK (T : Tb) (xs : List Int) (i k : Nat) : Option (List Int × Nat) := (rdK T xs i k).bind fun a => (readTo a.1 k).bind fun b => if b.1.length = 63 then some (b.1, a.2) else none
theorem goodK_is {T : Tb} {xs : List Int} {i k : Nat} {q : List Int × Nat} (h : goodK T xs i k = some q) : Good T xs i q.1 q.2 := by
  unfold goodK at h
  cases ha : rdK T xs i k with
  | none => rw [ha] at h; cases h
  | some a =>
    rw [ha, Option.bind_some] at h
    have h' : (readTo a.1 k).bind (fun b => if b.1.length = 63 then some (b.1, a.2) else none) = some q := h
    cases hb : readTo a.1 k with
    | none => rw [hb] at h'; cases h'
    | some b =>
      rw [hb, Option.bind_some] at h'
      have h'' : (if b.1.length = 63 then some (b.1, a.2) else none) = some q := h'
      split at h''
      · rename_i hl
        cases h''
        exact ⟨k, a.1, b.2, ha, hb, hl⟩
      · cases h''
/-- The numbers of the block whose steps stand from a place on, and the place behind it. -/
def goodF (T : Tb) (xs : List Int) (i : Nat) : Option (List Int × Nat) := (List.range 64).findSome? fun k => goodK T xs i k
theorem goodF_is {T : Tb} {xs : List Int} {i : Nat} {q : List Int × Nat} (h : goodF T xs i = some q) : Good T xs i q.1 q.2 := by
  obtain ⟨k, _, hk⟩ := List.exists_of_findSome?_eq_some h
  exact goodK_is hk
theorem goodF_some {T : Tb} {xs : List Int} {i : Nat} {ac : List Int} {p : Nat} (h : Good T xs i ac p) : ∃ q, goodF T xs i = some q := by
  obtain ⟨k, L, sk, h1, h2, h3⟩ := h
  have hk : k < 64 := by have := readTo_grow h2; simp only at this; omega
  cases e : goodF T xs i with
  | some q => exact ⟨q, rfl⟩
  | none =>
    exfalso
    have := List.findSome?_eq_none_iff.1 e k (by simpa using hk)
    unfold goodK at this
    rw [h1, Option.bind_some] at this
    have h' : (readTo L k).bind (fun b => if b.1.length = 63 then some (b.1, p) else none) = none := this
    rw [h2, Option.bind_some] at h'
    have h'' : (if ac.length = 63 then some (ac, p) else none) = none := h'
    rw [if_pos h3] at h''
    cases h''
/-- The block at a place, behind another one. -/
def bR (T : Tb) (xs : List Int) (i : Nat) (ah : Int) : Option ((Int × List Int) × Nat) := (shiftR T xs i).bind fun a => if inC (ah + a.1) = true then (goodF T xs a.2).map fun g => ((ah + a.1, g.1), g.2) else none
theorem bR_is {T : Tb} {xs : List Int} {i : Nat} {ah : Int} {q : (Int × List Int) × Nat} (h : bR T xs i ah = some q) : IsB T xs i ah q.1.1 q.1.2 q.2 := by
  unfold bR at h
  cases ha : shiftR T xs i with
  | none => rw [ha] at h; cases h
  | some a =>
    rw [ha, Option.bind_some] at h
    have h' : (if inC (ah + a.1) = true then (goodF T xs a.2).map fun g => ((ah + a.1, g.1), g.2) else none) = some q := h
    split at h'
    · rename_i hc
      cases hg : goodF T xs a.2 with
      | none => rw [hg] at h'; cases h'
      | some g =>
        rw [hg] at h'
        cases h'
        exact ⟨a.1, a.2, ha, rfl, hc, goodF_is hg⟩
    · cases h'
theorem bR_of {T : Tb} {xs : List Int} {i : Nat} {ah d : Int} {ac : List Int} {p : Nat} (h : IsB T xs i ah d ac p) : bR T xs i ah = some ((d, ac), p) := by
  have hsome : ∃ q, bR T xs i ah = some q := by
    obtain ⟨x, n, h1, rfl, h2, h3⟩ := h
    obtain ⟨g, hg⟩ := goodF_some h3
    refine ⟨((ah + x, g.1), g.2), ?_⟩
    unfold bR
    rw [h1, Option.bind_some]
    show (if inC (ah + x) = true then (goodF T xs n).map fun g => ((ah + x, g.1), g.2) else none) = _
    rw [if_pos h2, hg]
    rfl
  obtain ⟨q, hq⟩ := hsome
  obtain ⟨e1, e2, e3⟩ := (bR_is hq).one h
  rw [hq, ← e1, ← e2, ← e3]
theorem bR_no {T : Tb} {xs : List Int} {i : Nat} {ah : Int} (h : NoB T xs i ah) : bR T xs i ah = none := by
  cases e : bR T xs i ah with
  | none => rfl
  | some q =>
    obtain ⟨x, n, h1, h2, h3, h4⟩ := bR_is e
    rw [h2] at h3
    exact absurd h4 (h x n h1 h3 _ _)
/-- The first k blocks, the place behind them, and the last Dc. -/
def blkTo (T : Tb) (xs : List Int) : Nat → Option (List (Int × List Int) × Nat × Int)
  | 0 => some ([], 0, 0)
  | k + 1 => (blkTo T xs k).bind fun a => (bR T xs a.2.1 a.2.2).bind fun b => some (a.1 ++ [b.1], b.2, b.1.1)
theorem blkTo_next {T : Tb} {xs : List Int} {k p p' : Nat} {L : List (Int × List Int)} {d d' : Int} {ac : List Int} (h : blkTo T xs k = some (L, p, d)) (hb : bR T xs p d = some ((d', ac), p')) : blkTo T xs (k + 1) = some (L ++ [(d', ac)], p', d') := by
  rw [blkTo, h, Option.bind_some]
  show (bR T xs p d).bind _ = _
  rw [hb]
  rfl
theorem blkTo_stop {T : Tb} {xs : List Int} {k p : Nat} {L : List (Int × List Int)} {d : Int} (h : blkTo T xs k = some (L, p, d)) (hb : bR T xs p d = none) : ∀ n, k < n → blkTo T xs n = none
  | n + 1, hn => by
    rw [blkTo]
    by_cases e : k = n
    · subst e
      rw [h, Option.bind_some]
      show (bR T xs p d).bind _ = _
      rw [hb]
      rfl
    · rw [blkTo_stop h hb n (by omega)]
      rfl
/-- The inputs of which blocks may be read. -/
def sbOk (T : Tb) (xs : List Int) (n : Int) : Prop := T.right ∧ (0 ≤ n ∧ n ≤ 1600) ∧ xs.length ≤ 480000 ∧ AllBits xs
/-- Whether blocks may be read can be decided. -/
def decSb (T : Tb) (xs : List Int) (n : Int) : Decidable (sbOk T xs n) :=
  decidable_of_iff (T.right ∧ (0 ≤ n ∧ n ≤ 1600) ∧ xs.length ≤ 480000 ∧ ∀ j, j < xs.length → xs.getD j 0 = 0 ∨ xs.getD j 0 = 1) Iff.rfl
/-- What ScanBlocks answers. -/
def sbR (T : Tb) (xs : List Int) (n : Int) : Option (List (Int × List Int) × Nat) := haveI := decSb T xs n; if sbOk T xs n then (blkTo T xs n.toNat).bind fun a => some (a.1, a.2.1) else none
theorem sbR_no {T : Tb} {xs : List Int} {n : Int} (h : ¬ sbOk T xs n) : sbR T xs n = none := by unfold sbR; rw [if_neg h]
theorem sbR_stop {T : Tb} {xs : List Int} {n : Nat} (h : blkTo T xs n = none) : sbR T xs n = none := by
  unfold sbR
  split
  · show (blkTo T xs n).bind _ = none
    rw [h]; rfl
  · rfl
theorem sbR_yes {T : Tb} {xs : List Int} {n p : Nat} {L : List (Int × List Int)} {d : Int} (h : sbOk T xs n) (hb : blkTo T xs n = some (L, p, d)) : sbR T xs n = some (L, p) := by
  unfold sbR
  rw [if_pos h]
  show (blkTo T xs n).bind _ = _
  rw [hb]; rfl

theorem Try.underlying36 : Try.prog.underlying 36 = some (.slice 71) := by kernel_rfl
/-- What ScanBlocks answers, and where. -/
def SbP (R : Option (List (Int × List Int) × Nat)) (w : World) (e : Ending) (w' : World) : Prop :=
  Below w.heap.size w w' ∧ match R with
  | none => ∃ v, e = .returned (.tuple #[v, .int .i64 0, .bool false]) ∧ OwnK w' w.heap.size v [] []
  | some (L, p) => ∃ v vs, e = .returned (.tuple #[v, .int .i64 (p : Int), .bool true]) ∧ OwnK w' w.heap.size v L vs
theorem SbP.no {w w' : World} (g : Nat) (hg : w'.heap.size = g) (hb : Below w.heap.size w w') : SbP none w (.returned (.tuple #[.slice (some ⟨g, 0, none⟩) 0 0, .int .i64 0, .bool false])) (w'.alloc (.cells #[] 71)) := by
  subst hg
  exact ⟨hb.alloc hb.size _, _, rfl, OwnK.empty w' _ hb.size⟩

set_option maxRecDepth 100000 in
set_option maxHeartbeats 3200000 in
theorem impl_scanBlocks (v : Value) (T : Tb) (ao : Option Addr) (cap : Nat) (xs : List Int) (n : Int) (w : World) (h0 : T.cs.length ≤ 1048576) (h1 : T.ss.length ≤ 1048576) (h2 : T.ct.length ≤ 1048576) (h3 : T.st.length ≤ 1048576)
    (hx : xs.length ≤ 1048576) (hsl : SlOk ao xs.length cap) (ht : TV w v T.cs T.ss T.ct T.st) (hv : View .i64 w ao xs.length xs) :
    Calls Try.prog 24 #[v, .slice ao xs.length cap, .int .i64 n] w (SbP (sbR T xs n) w) := by
  have HTV := hid ht
  obtain ⟨a0, c0, a1, c1, a2, c2, a3, c3, rfl, _, _⟩ := ht
  have HB := hid ((Below.refl w.heap.size w).alloc (Nat.le_refl _) (.cells #[.slice a0 T.cs.length c0, .slice a1 T.ss.length c1, .slice a2 T.ct.length c2, .slice a3 T.st.length c3] 34))
  have HV := hid hv
  have HSL := hid hsl
  clear hv hsl
  by_cases hr : T.right
  · have HKB := hid (books_yes _ T.cs T.ss T.ct T.st _ h0 h1 h2 h3 hr.1 hr.2 (HTV.out.below HB.out))
    have HR := hid hr
    clear h0 h1 h2 h3 HTV
    go_enter Try.func24, Try.ntmps24
    go_wp2_with fail
    refine HKB.out.mono ?_
    generalize w.alloc (.cells #[.slice a0 T.cs.length c0, .slice a1 T.ss.length c1, .slice a2 T.ct.length c2, .slice a3 T.st.length c3] 34) = wa at *
    rintro e w1 ⟨C1, C2, rfl, hbk, hb1⟩
    have HA1 := hid ((Below.refl w1.heap.size w1).alloc (Nat.le_refl _) (.cells #[.pointer (some ⟨C1, 0, none⟩), .pointer (some ⟨C2, 0, none⟩)] 78))
    have B1 := hid (HB.out.trans ((hb1.trans (HA1.out.mono hb1.size)).mono HB.out.size))
    have HT1 := hid (Two.new w1 (.pointer (some ⟨C1, 0, none⟩)) (.pointer (some ⟨C2, 0, none⟩)) 78)
    have HK1 := hid (hbk.below HA1.out)
    clear hbk hb1 HKB HB
    by_cases hn : 0 ≤ n ∧ n ≤ 1600
    · by_cases hl : xs.length ≤ 480000
      · by_cases hall : AllBits xs
        · have HOK := hid (show sbOk T xs n from ⟨hr, hn, hl, hall⟩)
          obtain ⟨m, rfl⟩ : ∃ m : Nat, n = (m : Int) := ⟨n.toNat, by omega⟩
          have hn1 := hn.1
          have hn2 := hn.2
          have hl' : (xs.length : Int) ≤ 480000 := by omega
          have HAL := hid hall
          have HAB := hid (fun q (hq : Below w.heap.size w q) => areBits_yes ao xs.length cap xs q (by omega) (HV.out.below (Nat.le_refl _) hq) hall)
          clear hr hn hall
          obtain ⟨q1, q2, q3, q4⟩ := HT1.out.cells
          go_wp2_with fail
          refine (HAB.out _ B1.out).mono ?_
          rintro e w1' ⟨rfl, rfl⟩
          have hwb := B1.out.size
          have HA3 := hid ((Below.refl _ _).alloc (Nat.le_refl _) (.cells #[.pointer (some ⟨C1, 0, none⟩), .pointer (some ⟨C2, 0, none⟩), .slice ao xs.length cap, .int .i64 0] 95) : Below (w1.alloc (.cells #[.pointer (some ⟨C1, 0, none⟩), .pointer (some ⟨C2, 0, none⟩)] 78)).heap.size _ _)
          have HF3 := hid (Four.new (w1.alloc (.cells #[.pointer (some ⟨C1, 0, none⟩), .pointer (some ⟨C2, 0, none⟩)] 78)) (.pointer (some ⟨C1, 0, none⟩)) (.pointer (some ⟨C2, 0, none⟩)) (.slice ao xs.length cap) (.int .i64 0) 95)
          have hsz2 : (w1.alloc (.cells #[.pointer (some ⟨C1, 0, none⟩), .pointer (some ⟨C2, 0, none⟩)] 78)).heap.size = w1.heap.size + 1 := by simp
          have hsz3 : ((w1.alloc (.cells #[.pointer (some ⟨C1, 0, none⟩), .pointer (some ⟨C2, 0, none⟩)] 78)).alloc (.cells #[.pointer (some ⟨C1, 0, none⟩), .pointer (some ⟨C2, 0, none⟩), .slice ao xs.length cap, .int .i64 0] 95)).heap.size = w1.heap.size + 1 + 1 := by simp
          have HSZ2 := hid hsz2
          have HSZ3 := hid hsz3
          rw [hsz2] at hwb
          clear hsz2 hsz3
          go_wp2_with fail
          generalize w1.alloc (.cells #[.pointer (some ⟨C1, 0, none⟩), .pointer (some ⟨C2, 0, none⟩)] 78) = w2 at *
          generalize w2.alloc (.cells #[.pointer (some ⟨C1, 0, none⟩), .pointer (some ⟨C2, 0, none⟩), .slice ao xs.length cap, .int .i64 0] 95) = w3 at *
          have R3 := hid (show RS w w3 (w1.heap.size + 1) C1 C2 ao cap T xs 0 from ⟨⟨hwb, by omega, hx, HSL.out⟩, B1.out.trans (HA3.out.mono B1.out.size), HV.out, by rw [← HSZ2.out]; exact HF3.out, HK1.out.below HA3.out⟩)
          have O4 := hid (OwnK.empty w3 (w1.heap.size + 1 + 1) (Nat.le_of_eq HSZ3.out.symm))
          rw [HSZ3.out] at O4
          have B4 := hid ((Below.refl w3.heap.size w3).alloc (Nat.le_refl _) (.cells #[] 71))
          rw [HSZ3.out] at B4
          have hw3 : w3.heap.size = w1.heap.size + 1 + 1 := HSZ3.out
          generalize w3.alloc (.cells #[] 71) = w4 at *
          clear HA3 HF3 HK1 HSZ2 HSZ3 HT1 q1 q2 q3 q4
          generalize hb : w1.heap.size + 1 = b at *
          go_loopw [12, 13, 47] (fun l ah iv wr => ∃ (k p : Nat) (d : Int) (L : List (Int × List Int)) (vs : List Value), (k ≤ m ∧ p ≤ xs.length ∧ -1023 ≤ d ∧ d ≤ 1023) ∧ iv = .int .i64 k ∧ ah = .int .i64 d ∧ Hid (blkTo T xs k = some (L, p, d) ∧ L.length = k) ∧ Hid (OwnK wr (b + 1) l L vs) ∧ Hid (Four wr b (.pointer (some ⟨C1, 0, none⟩)) (.pointer (some ⟨C2, 0, none⟩)) (.slice ao xs.length cap) (.int .i64 p) 95) ∧ Hid (Ef b w3 wr)) (fun _ _ iv _ => m - (intOf iv).toNat)
          case atStart => exact ⟨0, 0, 0, [], [], ⟨by omega, by omega, by decide, by decide⟩, rfl, rfl, ⟨rfl, rfl⟩, O4.out, R3.out.2.2.2.1.below B4.out (by omega), Ef.ofBelow (by rw [hw3]; exact B4.out)⟩
          case round =>
            obtain ⟨k, p, d, L, vs, ⟨hk, hp, hd1, hd2⟩, rfl, rfl, hto, hown, hF, hE⟩ := hrel
            obtain ⟨lo, lc, rfl⟩ := hown.out.shape
            have RR := hid (R3.out.ef hE.out hF.out hp)
            have hbw : b < wr.heap.size := hF.out.lt
            by_cases hlt : k < m
            · have hlt' : (k : Int) < (m : Int) := by omega
              have HBK := hid (rd_block w wr b C1 C2 ao cap T xs p d HR.out HAL.out (by omega) RR.out)
              go_wp2_with fail
              refine HBK.out.mono ?_
              rintro e w5 ⟨⟨d', ac, p', v5, hib, rfl, hv5, hr5⟩ | ⟨hnb, rfl⟩, he5⟩
              · obtain ⟨yo, yc, rfl⟩ := hv5.shape
                have hw5 : wr.heap.size ≤ w5.heap.size := he5.size
                have A6 := hid ((Below.refl w5.heap.size w5).alloc (Nat.le_refl _) (.cells #[.int .i64 d', .slice yo ac.length yc] 71))
                have O5 := hown.out.ef he5 (by omega)
                have O6 := hid (O5.below A6.out)
                have HNE := hid (O5.ne (Nat.le_refl _))
                have HY := hid ((hv5.mono (show b + 1 ≤ wr.heap.size by omega)).below A6.out)
                have HYB := hid (fun j (hj : j < L.length) (a a' : Addr) (n n' c c' : Nat) (e1 : vs.getD j (.bool false) = .slice (some a) n c) (e2 : Value.slice yo ac.length yc = .slice (some a') n' c') => (show a.block < a'.block by
                  have h1 := hown.out.lt j hj a n c e1
                  rw [e2] at hv5
                  have h2 := hv5.ge.1
                  omega))
                have T6 := hid (Two.new w5 (.int .i64 d') (.slice yo ac.length yc) 71)
                have F6 := hid (hr5.2.2.2.1.below A6.out (by omega))
                have E6 := hid ((hE.out.trans he5).thenBelow A6.out (by omega))
                have hdd : -1023 ≤ d' ∧ d' ≤ 1023 := by
                  obtain ⟨x, n', _, _, hc, _⟩ := hib
                  simpa [inC] using hc
                have hd1' := hdd.1
                have hd2' := hdd.2
                have hp' := hr5.1.2.1
                have HTO := hid (blkTo_next hto.out.1 (bR_of hib))
                have HL1 := hid (show (L ++ [(d', ac)]).length = k + 1 by simp [hto.out.2])
                have hlen : L.length < 1000000000 := by have := hto.out.2; omega
                clear hib hv5 hr5 he5 O5 HBK hdd
                go_wp2_with (at_builtin; refine wpList_pushK (w5.alloc (.cells #[.int .i64 d', .slice yo ac.length yc] 71)) (w5.heap.size + 1) (by simp) rfl _ _ 36 rfl (b + 1) Try.underlying36 Try.info71 _ L vs (by rfl) O6.out d' yo ac.length yc ac HY.out HYB.out (by rfl) hlen ?_)
                generalize w5.alloc (.cells #[.int .i64 d', .slice yo ac.length yc] 71) = w6 at *
                intro v8 w8 ho8 hb8 hg8
                have T8 := hid (show Two w8 w5.heap.size (.int .i64 d') (.slice yo ac.length yc) 71 from (hg8.block w5.heap.size (by have := T6.out.lt; simp; omega) (fun e => HNE.out e.symm)).trans (T6.out.alloc _))
                have O8 := hid ho8
                have F8 := hid (F6.out.below hb8 (by omega))
                have E8 := hid (E6.out.thenBelow hb8 (by omega))
                obtain ⟨q1, q2, q3, q4⟩ := T8.out.cells
                clear ho8 hb8 hg8
                go_wp2_with fail
                go_roundw
                case rel => exact ⟨k + 1, p', d', L ++ [(d', ac)], _, ⟨by omega, hp', hd1', hd2'⟩, by go_num, rfl, ⟨HTO.out, HL1.out⟩, O8.out, F8.out, E8.out⟩
                case measure => simp [intOf]; omega
              · have HNO := hid (sbR_stop (blkTo_stop hto.out.1 (bR_no hnb) m hlt))
                have A6 := hid ((Below.refl w5.heap.size w5).alloc (Nat.le_refl _) (.cells #[.int .i64 0, .slice none 0 0] 71))
                have E6 := hid ((hE.out.trans he5).thenBelow A6.out (by have := hE.out.size; have := he5.size; omega))
                have B6 := hid (R3.out.2.1.trans (E6.out.below hwb R3.out.2.1.size))
                clear hnb he5 HBK
                go_wp2_with fail
                refine bodyPost_ret (v := .tuple #[.slice (some ⟨w5.heap.size + 1, 0, none⟩) 0 0, .int .i64 0, .bool false]) (by simp [results, Try.results24, go_sem]) rfl ?_
                rw [HNO.out]
                exact SbP.no _ (by simp) B6.out
            · obtain rfl : k = m := by omega
              have hlt' : ¬ (k : Int) < (k : Int) := by omega
              have HYES := hid (sbR_yes HOK.out hto.out.1)
              obtain ⟨q1, q2, q3, q4⟩ := hF.out.cells
              have B6 := hid (R3.out.2.1.trans (hE.out.below hwb R3.out.2.1.size))
              go_wp2_with fail
              go_quiet (fail)
              go_wp2_with fail
              refine bodyPost_ret (v := .tuple #[.slice lo L.length lc, .int .i64 (p : Int), .bool true]) (by simp [results, Try.results24, go_sem]) rfl ?_
              rw [HYES.out]
              exact ⟨B6.out.trans ((below_drewN _ _).mono B6.out.size), _, _, rfl, (hown.out.mono (by omega)).below (below_drewN _ _)⟩
        · have HNO := hid (sbR_no (T := T) (xs := xs) (n := n) (fun h => hall h.2.2.2))
          have hn1 := hn.1
          have hn2 := hn.2
          have hl' : (xs.length : Int) ≤ 480000 := by omega
          have HAB := hid (fun q (hq : Below w.heap.size w q) => areBits_no ao xs.length cap xs q (by omega) (HV.out.below (Nat.le_refl _) hq) hall)
          obtain ⟨q1, q2, q3, q4⟩ := HT1.out.cells
          clear hr hn hall
          go_wp2_with fail
          refine (HAB.out _ B1.out).mono ?_
          rintro e w1' ⟨rfl, rfl⟩
          go_wp2_with fail
          refine bodyPost_ret (v := .tuple #[.slice (some ⟨w1.heap.size + 1, 0, none⟩) 0 0, .int .i64 0, .bool false]) (by simp [results, Try.results24, go_sem]) rfl ?_
          rw [HNO.out]
          exact SbP.no _ (by simp) B1.out
      · have HNO := hid (sbR_no (T := T) (xs := xs) (n := n) (fun h => hl h.2.2.1))
        have hn1 := hn.1
        have hn2 := hn.2
        have hl' : ¬ (xs.length : Int) ≤ 480000 := by omega
        obtain ⟨q1, q2, q3, q4⟩ := HT1.out.cells
        clear hr hn hl
        go_wp2_with fail
        refine bodyPost_ret (v := .tuple #[.slice (some ⟨w1.heap.size + 1, 0, none⟩) 0 0, .int .i64 0, .bool false]) (by simp [results, Try.results24, go_sem]) rfl ?_
        rw [HNO.out]
        exact SbP.no _ (by simp) B1.out
    · have HNO := hid (sbR_no (T := T) (xs := xs) (n := n) (fun h => hn h.2.1))
      obtain ⟨q1, q2, q3, q4⟩ := HT1.out.cells
      have hn' : n < 0 ∨ (0 ≤ n ∧ 1600 < n) := by omega
      clear hr hn
      rcases hn' with hn1 | ⟨hn1, hn2⟩
      all_goals
        go_wp2_with fail
        refine bodyPost_ret (v := .tuple #[.slice (some ⟨w1.heap.size + 1, 0, none⟩) 0 0, .int .i64 0, .bool false]) (by simp [results, Try.results24, go_sem]) rfl ?_
        rw [HNO.out]
        exact SbP.no _ (by simp) B1.out
  · have HKB := hid (books_no _ T.cs T.ss T.ct T.st _ h0 h1 h2 h3 hr (HTV.out.below HB.out))
    have HNO := hid (sbR_no (T := T) (xs := xs) (n := n) (fun h => hr h.1))
    clear h0 h1 h2 h3 HTV hr
    go_enter Try.func24, Try.ntmps24
    go_wp2_with fail
    refine HKB.out.mono ?_
    generalize w.alloc (.cells #[.slice a0 T.cs.length c0, .slice a1 T.ss.length c1, .slice a2 T.ct.length c2, .slice a3 T.st.length c3] 34) = wa at *
    rintro e w1 ⟨rfl, hb1⟩
    have HA1 := hid ((Below.refl w1.heap.size w1).alloc (Nat.le_refl _) (.cells #[.pointer none, .pointer none] 78))
    have B1 := hid (HB.out.trans ((hb1.trans (HA1.out.mono hb1.size)).mono HB.out.size))
    clear hb1 HKB HB
    go_wp2_with fail
    refine bodyPost_ret (v := .tuple #[.slice (some ⟨w1.heap.size + 1, 0, none⟩) 0 0, .int .i64 0, .bool false]) (by simp [results, Try.results24, go_sem]) rfl ?_
    rw [HNO.out]
    exact SbP.no _ (by simp) B1.out
end Go.Proofs.Ytcikmgdfelejpaa
