/- The contract of l11At: the record that stands at a sector. -/
import Derived.Test.YtphhgfgmlfdkiaaLg
import Derived.Test.YtphhgfgmlfdkiaaRd
import Derived.Test.YtphhgfgmlfdkiaaSpp
import Derived.Test.YtphhgfgmlfdkiaaQg
import Derived.Test.YtphhgfgmlfdkiaaGet
namespace Go.Proofs.Ytphhgfgmlfdkiaa
open Go.RowKit
set_option linter.unusedVariables false

theorem mpTo_from (L : List (Int × ByteArray)) (i : Int) : ∀ k x, mpTo L k i = some x → ∃ j, j < k ∧ x = lAt L j
  | 0, x, h => by cases h
  | k + 1, x, h => by
    by_cases e : (lAt L k).1 = i
    · rw [mpTo_hit L k i e] at h
      cases h
      exact ⟨k, by omega, rfl⟩
    · rw [mpTo_miss L k i e] at h
      obtain ⟨j, hj, e'⟩ := mpTo_from L i k x h
      exact ⟨j, by omega, e'⟩
theorem eff_size {S : List ByteArray} {L : List (Int × ByteArray)} (hok : DOk S L) (i : Nat) (h : i < S.length) : (sAt (eff S L) i).size ≤ 128 := by
  rw [eff_at _ _ _ h]
  cases hm : mpTo L L.length (i : Int) with
  | none => rw [rdF_none hm, Int.toNat_natCast]; exact hok.2.1 i h
  | some x =>
    rw [rdF_some hm]
    obtain ⟨j, hj, rfl⟩ := mpTo_from L i L.length x hm
    exact (hok.2.2 j hj).2

/-- The bytes of a text, as cells. -/
def encB (x : ByteArray) : List Value := x.data.toList.map fun b => .int .u8 (b.toNat : Int)
theorem encB_len (x : ByteArray) : (encB x).length = x.size * 1 := by simp [encB]
theorem encB_app (x y : ByteArray) : encB (x ++ y) = encB x ++ encB y := by simp [encB]
theorem encB_one (x : ByteArray) : ∀ u ∈ encB x, u.oneCell' = true := by
  intro u hu
  simp [encB] at hu
  obtain ⟨a, _, rfl⟩ := hu
  rfl
theorem Try.infoB : (Try.prog.info? 5).map (fun i => (i.zero, i.size, i.bytes)) = some (some (.int .u8 0), 1, 1) := by kernel_rfl
/-- '[]byte(s)'. -/
theorem conv_row (w : World) (s : ByteArray) (m : Nat) (k : Nat × Nat) : Rw (w.alloc (.cells (bytesRow s m) 5 k)) (some ⟨w.heap.size, 0, none⟩) (encB s) := by
  intro j u hj
  refine ⟨w.heap.size, 0, rfl, ?_⟩
  rw [Nat.zero_add]
  have := World.cell?_alloc_mark w (bytesRow s m) 5 k j
  refine this.trans ?_
  simp [encB] at hj
  obtain ⟨a, ha, rfl⟩ := hj
  obtain ⟨hjs, hja⟩ := Array.getElem?_eq_some_iff.1 ha
  rw [bytesRow_at s _ j hjs, hja]

def nums (s : ByteArray) : List Int := s.data.toList.map fun b => (b.toNat : Int)
theorem nums_len (s : ByteArray) : (nums s).length = s.size := by simp [nums]
theorem strOfNums_nums' (s : ByteArray) : strOfNums (nums s) = s := by
  apply ByteArray.ext
  apply Array.toList_inj.1
  rw [strOfNums_data]
  unfold nums
  rw [List.map_map]
  have : ((fun n : Int => UInt8.ofNat n.toNat) ∘ fun b : UInt8 => (b.toNat : Int)) = id := by
    funext b
    simp
  rw [this, List.map_id]
/-- 'string(s)'. -/
theorem OwG.convB {w : World} {base : Nat} {sa : Option Addr} {sc : Nat} {x : ByteArray} (h : OwG w base 5 1 (.slice sa x.size sc) x.size (encB x)) : Sem.run Try.prog (convert 22 9 (.slice sa x.size sc)) w = .ok (.string x) w := by
  obtain ⟨ao, cap, e, hp, _⟩ := h.shape
  cases e
  rcases hp with ⟨rfl, h0, rfl⟩ | ⟨b, off, rfl⟩
  · have hx : x = ⟨#[]⟩ := by
      apply ByteArray.ext
      exact Array.eq_empty_of_size_eq_zero h0
    rw [h0]
    have := run_convert_bytes_nil (P := Try.prog) w 22 5 Try.underlying22 Try.underlying5 0 0 9 Try.underlying9
    rw [hx]
    exact this
  · have := run_convert_bytes_arg (P := Try.prog) w 22 5 Try.underlying22 Try.underlying5 b off x.size sc (nums x) (nums_len x) (fun i hi => by
      have hi' : i < x.data.size := hi
      obtain ⟨b', off', e', hc⟩ := h.rw i (.int .u8 (x.data[i].toNat : Int)) (by show (x.data.toList.map _)[i]? = _; rw [List.getElem?_map, Array.getElem?_toList, Array.getElem?_eq_getElem hi']; rfl)
      cases e'
      rw [hc]
      congr 2
      unfold nums
      rw [List.getD_eq_getElem?_getD, List.getElem?_map, Array.getElem?_toList, Array.getElem?_eq_getElem hi']
      rfl) 9 Try.underlying9
    rw [strOfNums_nums'] at this
    exact this

theorem toList_loop (bs : ByteArray) : ∀ k i r, bs.size - i = k → ByteArray.toList.loop bs i r = r.reverse ++ bs.data.toList.drop i := by
  intro k
  induction k with
  | zero =>
    intro i r h
    rw [ByteArray.toList.loop]
    have : ¬ i < bs.size := by omega
    rw [if_neg this, List.drop_of_length_le (by have : bs.data.size = bs.size := rfl; simp; omega)]
    simp
  | succ k ih =>
    intro i r h
    rw [ByteArray.toList.loop]
    have hi : i < bs.size := by omega
    rw [if_pos hi, ih (i + 1) _ (by omega)]
    have hd : i < bs.data.toList.length := by have : bs.data.size = bs.size := rfl; simp; omega
    rw [List.drop_eq_getElem_cons hd]
    have hd' : i < bs.data.size := hi
    have : bs.get! i = bs.data.toList[i] := by
      unfold ByteArray.get!
      simp
      exact getElem!_pos bs.data i hd'
    simp [this]
theorem toList_inj {a b : ByteArray} (h : a.toList = b.toList) : a = b := by
  unfold ByteArray.toList at h
  rw [toList_loop a _ 0 [] rfl, toList_loop b _ 0 [] rfl] at h
  simp at h
  obtain ⟨⟨l⟩⟩ := a
  obtain ⟨⟨m⟩⟩ := b
  simp at h
  rw [h]
theorem ne_list {a b : ByteArray} (h : a ≠ b) : (a.toList == b.toList) = false := by
  cases h2 : (a.toList == b.toList)
  · rfl
  · exact absurd (toList_inj (eq_of_beq h2)) h

def AtR (b : Bool) (E : List ByteArray) (p q : Nat) (s : ByteArray) (n : Nat) : Prop := (b = true ∧ atR E p q = some (s, n)) ∨ (b = false ∧ atR E p q = none)

set_option maxRecDepth 100000 in
set_option maxHeartbeats 3200000 in
theorem spec_at (v : Value) (S : List ByteArray) (L : List (Int × ByteArray)) (p q : Nat) (w : World) (hok : DOk S L) (hp : p ≤ 1500) (hq : 1 ≤ q ∧ q ≤ 10000) (hv : DV w v S L) :
    Calls Try.prog 64 #[v, .int .i64 p, .int .i64 q] w fun e w' => ∃ s n b, e = .returned (.tuple #[.string s, .int .i64 (n : Nat), .bool b]) ∧ AtR b (eff S L) p q s n ∧ Below w.heap.size w w' := by
  obtain ⟨a, c, a', c', rfl, r1, r2⟩ := hv
  have hn1 : S.length ≤ 1500 := hok.1.1
  have hm1 : L.length ≤ 3000 := hok.1.2
  have hv0 : DV w (.agg #[.slice a S.length c, .slice a' L.length c']) S L := ⟨_, _, _, _, rfl, r1, r2⟩
  have hb0 := (Below.refl w.heap.size w).alloc (Nat.le_refl _) (.cells #[.slice a S.length c, .slice a' L.length c'] 27)
  have N := hid (Blk.new w [.slice a S.length c, .slice a' L.length c'] 27)
  have B := hid hb0
  have V := hid (hv0.below (Nat.le_refl _) hb0)
  have HRD := hid (fun i (hi : i < S.length) wz (hz : DV wz (.agg #[.slice a S.length c, .slice a' L.length c']) S L) => spec_l10read _ S L i wz hn1 hm1 hi hz)
  have HES := hid (fun i (hi : i < S.length) => eff_size hok i hi)
  have HEA := hid (fun i (hi : i < S.length) => eff_at S L i hi)
  have HEL := hid (eff_len S L)
  clear r1 r2 hv0 hb0 hok
  generalize eff S L = E at *
  have q0 := N.out.cell (i := 0) rfl
  have q1 := N.out.cell (i := 1) rfl
  by_cases hps : (S.length : Int) ≤ (p : Int)
  · have HA := hid (show AtR false E p q ⟨#[]⟩ 0 from .inr ⟨rfl, atR_no (fun h => by have := HEL.out; omega)⟩)
    go_enter Try.func64, Try.ntmps64
    go_wp2_with fail
    refine bodyPost_ret (v := .tuple #[.string ⟨#[]⟩, .int .i64 0, .bool false]) (by simp [results, Try.results64, go_sem]) rfl ?_
    exact ⟨_, 0, _, rfl, HA.out, B.out⟩
  · have hpl : p < S.length := by omega
    go_enter Try.func64, Try.ntmps64
    go_wp2_with fail
    refine (HRD.out p hpl _ V.out).mono ?_
    generalize w.alloc _ = w0 at *
    rintro e w1 ⟨rfl, hb⟩
    rw [show rdP S L (p : Int) = sAt E p from (HEA.out p hpl).symm]
    replace B := hid (B.out.trans (hb.mono B.out.size))
    replace N := hid (N.out.below hb N.out.lt)
    replace V := hid (V.out.below (Nat.le_refl _) hb)
    clear hb q0 q1
    have hfs := HES.out p hpl
    have HAN := hid (show ∀ (h : ¬ (12 ≤ (sAt E p).size ∧ recB E p q (told (sAt E p)) = true)), AtR false E p q ⟨#[]⟩ 0 from fun h => .inr ⟨rfl, atR_no (fun k => h k.2)⟩)
    have HAY := hid (show ∀ (h : 12 ≤ (sAt E p).size ∧ recB E p q (told (sAt E p)) = true), AtR true E p q (joinTo E p (told (sAt E p))) (told (sAt E p)) from fun h => .inl ⟨rfl, atR_yes ⟨by have := HEL.out; omega, h⟩⟩)
    by_cases h12 : (12 : Int) ≤ ((sAt E p).size : Int)
    · have h12' : ¬ ((sAt E p).size : Int) < 12 := by omega
      have HGW := hid (fun wz => spec_getWord_yes (sAt E p) 8 wz (by omega) (by omega))
      rw [told_yes (sAt E p) (by omega)] at HGW
      have htl := told_le (sAt E p)
      generalize hM : told (sAt E p) = m at *
      have HM := hid hM
      clear hM
      go_wp2_with fail
      refine (HGW.out _).mono ?_
      rintro e w2 ⟨rfl, nd, rfl⟩
      clear HGW
      replace N := hid (show Blk (w1.drewN nd) _ _ _ from N.out)
      replace V := hid (show DV (w1.drewN nd) _ _ _ from V.out)
      have q0 := N.out.cell (i := 0) rfl
      have q1 := N.out.cell (i := 1) rfl
      by_cases hml : (S.length : Int) - (p : Int) < (m : Int)
      · have HA := HAN.out (fun h => by
          have h2 := h.2
          simp only [recB, Bool.and_eq_true, decide_eq_true_eq] at h2
          have := HEL.out
          omega)
        replace HA := hid HA
        go_wp2_with fail
        refine bodyPost_ret (v := .tuple #[.string ⟨#[]⟩, .int .i64 0, .bool false]) (by simp [results, Try.results64, go_sem]) rfl ?_
        exact ⟨_, 0, _, rfl, HA.out, belowN B.out _⟩
      · have hml' : p + m ≤ S.length := by omega
        have HSE := hid (OwG.empty (w1.drewN nd) w1.heap.size 5 1 (Nat.le_refl _))
        have HBE := hid ((Below.refl w1.heap.size (w1.drewN nd)).alloc (Nat.le_refl _) (.cells #[] 5))
        have hsz1 := B.out.size
        go_wp2_with fail
        go_loopw [11, 12] (fun v i wr => ∃ (k : Nat), k ≤ m ∧ i = .int .i64 k ∧ Hid (longTo E p k = true) ∧ Hid (OwG wr w1.heap.size 5 1 v (joinTo E p k).size (encB (joinTo E p k))) ∧ Hid (Below w1.heap.size (w1.drewN nd) wr) ∧ Hid ((joinTo E p k).size ≤ k * 116)) (fun _ i _ => m - (intOf i).toNat)
        case atStart => exact ⟨0, by omega, rfl, rfl, HSE.out, HBE.out, Nat.le_refl 0⟩
        case round =>
          clear HSE HBE q0 q1
          obtain ⟨k, hk, rfl, hlg, hown, hb, hjz⟩ := hrel
          replace N := hid (N.out.below hb.out N.out.lt)
          replace V := hid (V.out.below (Nat.le_refl _) hb.out)
          have q0 := N.out.cell (i := 0) rfl
          have q1 := N.out.cell (i := 1) rfl
          obtain ⟨sa, sc, rfl, _, _⟩ := hown.out.shape
          by_cases hlt : k < m
          · have hlt' : (k : Int) < (m : Int) := by omega
            have HR := hid (HRD.out (p + k) (by omega) _ V.out)
            rw [show rdP S L ((p + k : Nat) : Int) = sAt E (p + k) from (HEA.out (p + k) (by omega)).symm, Int.natCast_add] at HR
            have hxs := HES.out (p + k) (by omega)
            go_wp2_with fail
            refine HR.out.mono ?_
            clear HR
            rintro e w3 ⟨rfl, hb3⟩
            replace hown := hid (hown.out.below hb3)
            replace N := hid (N.out.below hb3 N.out.lt)
            replace V := hid (V.out.below (Nat.le_refl _) hb3)
            replace hb := hid (hb.out.trans (hb3.mono hb.out.size))
            clear hb3 q0 q1
            by_cases hx12 : ((sAt E (p + k)).size : Int) < 12
            · have HA := hid (HAN.out (fun h => by
                have h2 := h.2
                simp only [recB, Bool.and_eq_true, decide_eq_true_eq] at h2
                have := (longTo_iff E p m).1 h2.2.1 k hlt
                omega))
              go_wp2_with fail
              refine bodyPost_ret (v := .tuple #[.string ⟨#[]⟩, .int .i64 0, .bool false]) (by simp [results, Try.results64, go_sem]) rfl ?_
              exact ⟨_, 0, _, rfl, HA.out, (belowN B.out nd).trans (Below.mono hb.out hsz1)⟩
            · have hx12' : (12 : Int) ≤ ((sAt E (p + k)).size : Int) := by omega
              have HLG := hid ((longTo_iff E p (k + 1)).2 (fun j hj => by
                by_cases e : j = k
                · subst e; omega
                · exact (longTo_iff E p k).1 hlg.out j (by omega)))
              have HJ := hid (show joinTo E p (k + 1) = joinTo E p k ++ (sAt E (p + k)).extract 12 (sAt E (p + k)).size from rfl)
              have hys : ((sAt E (p + k)).extract 12 (sAt E (p + k)).size).size ≤ 116 := by simp only [ByteArray.size_extract]; omega
              obtain ⟨Y, hY⟩ : ∃ Y, (sAt E (p + k)).extract 12 (sAt E (p + k)).size = Y := ⟨_, rfl⟩
              rw [hY] at HJ hys
              have hconv := run_bytes_of_string (P := Try.prog) w3 9 22 5 Y Try.underlying9 Try.underlying22 Try.underlying5
              have RC := hid (conv_row w3.drew Y (grownCap w3 Y.size 0 5) ((bytesRow Y (grownCap w3 Y.size 0 5)).size, (bytesRow Y (grownCap w3 Y.size 0 5)).size + 1))
              have B3 : Hid (Below w3.heap.size w3 (w3.drew.alloc (.cells (bytesRow Y (grownCap w3 Y.size 0 5)) 5 ((bytesRow Y (grownCap w3 Y.size 0 5)).size, (bytesRow Y (grownCap w3 Y.size 0 5)).size + 1)))) := (belowN (Below.refl w3.heap.size w3) 1).alloc (Nat.le_refl _) _
              generalize w3.drew.alloc (.cells (bytesRow Y (grownCap w3 Y.size 0 5)) 5 ((bytesRow Y (grownCap w3 Y.size 0 5)).size, (bytesRow Y (grownCap w3 Y.size 0 5)).size + 1)) = w4 at *
              generalize grownCap w3 Y.size 0 5 = CP at *
              replace hown := hid (hown.out.below B3.out)
              replace hb := hid (hb.out.trans (B3.out.mono hb.out.size))
              have hjz' := hjz.out
              generalize joinTo E p k = J at *
              go_wp2_with (at_builtin; refine wpList_appG w4 rfl _ _ 22 rfl w1.heap.size 5 (.int .u8 0) 1 1 Try.underlying22 Try.infoB rfl (by decide) (.slice sa J.size sc) J.size (encB J) rfl hown.out (some ⟨w3.heap.size, 0, none⟩) Y.size CP (encB Y) rfl (encB_len Y) RC.out (.inr ⟨_, _, rfl⟩) (encB_one Y) (by omega) (by decide) ?_)
              intro v5 w5 ho5 hb5 _
              obtain ⟨va5, vc5, rfl, _, _⟩ := ho5.shape
              have HO5 := hid ho5
              have HB5 := hid (hb.out.trans hb5)
              rw [← encB_app, ← ByteArray.size_append, ← HJ.out] at HO5
              have HJ5 := hid (show (joinTo E p (k + 1)).size ≤ (k + 1) * 116 by rw [HJ.out, ByteArray.size_append]; omega)
              rw [← ByteArray.size_append, ← HJ.out]
              clear ho5 hb5 hconv
              go_wp2_with fail
              go_roundw
              case rel => exact ⟨k + 1, by omega, by go_num, HLG.out, HO5.out, HB5.out, HJ5.out⟩
              case measure => simp [intOf]; omega
          · obtain rfl : k = m := by omega
            have hconv := hown.out.convB
            have HSP := hid (fun wz => spec_parts q (joinTo E p k) wz (by have := hjz.out; omega))
            have hT6 := partsP_len q (joinTo E p k)
            have HTE := hid (show partsP q (joinTo E p k) = partsP q (joinTo E p k) from rfl)
            generalize hJ : joinTo E p k = J at *
            have HJ := hid hJ
            clear hJ
            generalize hT : partsP q J = T at *
            have HT := hid hT
            clear hT HTE
            go_wp2_with fail
            clear hconv
            refine (HSP.out _).mono ?_
            rintro e w6 ⟨vT, rfl, hoT, hb6⟩
            obtain ⟨ta, tc, rfl, _, _⟩ := hoT.shape
            have GT := hid hoT
            replace hown := hid (hown.out.below hb6)
            replace N := hid (N.out.below hb6 N.out.lt)
            replace V := hid (V.out.below (Nat.le_refl _) hb6)
            replace hb := hid (hb.out.trans (hb6.mono hb.out.size))
            clear hoT hb6 q0 q1 HSP
            have HEQ := hid (show recB E p q k = true ↔ T = (E.drop p).take k from by
              have h1 : decide (p + k ≤ E.length) = true := decide_eq_true (by have := HEL.out; omega)
              have h2 := hlg.out
              simp only [recB, h1, h2, HJ.out, HT.out, Bool.true_and, decide_eq_true_eq])
            by_cases hTm : T.length = k
            · have bT : ((T.length : Int) != (k : Int)) = false := by simp [hTm]
              have hTm' := hid hTm
              clear hTm
              go_wp2_with fail
              go_loopw [15] (fun i wr => ∃ (j : Nat), j ≤ k ∧ i = .int .i64 j ∧ Hid (∀ x, x < j → sAt T x = sAt E (p + x)) ∧ Hid (Below w6.heap.size w6 wr)) (fun i _ => k - (intOf i).toNat)
              case atStart => exact ⟨0, by omega, rfl, fun x hx => by omega, Below.refl _ _⟩
              case round =>
                obtain ⟨j, hj, rfl, hal, hbl⟩ := hrel
                have N2 := hid (N.out.below hbl.out N.out.lt)
                have q0 := N2.out.cell (i := 0) rfl
                have q1 := N2.out.cell (i := 1) rfl
                by_cases hjl : j < k
                · have hjl' : (j : Int) < (k : Int) := by omega
                  have hjT : (j : Int) < (T.length : Int) := by rw [hTm'.out]; exact hjl'
                  obtain ⟨g, o, rfl, hc⟩ := (GT.out.below hbl.out).rw.atS j (by rw [hTm'.out]; exact hjl)
                  have zw : IntKind.i64.wrap ((p : Int) + (j : Int)) = (p : Int) + (j : Int) := by rw [IntKind.wrap_i64]; omega
                  have HR := hid (fun wz (hz : Bw wr wz) => HRD.out (p + j) (by omega) wz ((V.out.below (Nat.le_refl _) hbl.out).below (Nat.le_refl _) hz))
                  rw [show rdP S L ((p + j : Nat) : Int) = sAt E (p + j) from (HEA.out (p + j) (by omega)).symm, Int.natCast_add] at HR
                  by_cases hXZ : sAt T j = sAt E (p + j)
                  · have HT0 := hid (show ∀ x, x < j + 1 → sAt T x = sAt E (p + x) from fun x hx => by
                      by_cases e : x = j
                      · subst e; exact hXZ
                      · exact hal.out x (by omega))
                    rw [← hXZ] at HR
                    clear hXZ
                    generalize sAt T j = X at *
                    have hXX : (X.toList != X.toList) = false := by simp
                    go_wp2_with fail
                    refine region_R (by kernel_rfl) ?_
                    refine anyR_quiet 0 rfl (by kernel_rfl) (by kernel_rfl) (by kernel_rfl) (fun K hK => ?_)
                    go_simp
                    refine ⟨_, fun _ _ => rfl, hK _ ?_⟩
                    clear hK K
                    refine anyR_quiet 1 rfl (by kernel_rfl) (by kernel_rfl) (by kernel_rfl) (fun K hK => ?_)
                    go_simp
                    refine ⟨_, fun _ _ => rfl, hK _ ?_⟩
                    clear hK K
                    refine anyR_quiet 2 rfl (by kernel_rfl) (by kernel_rfl) (by kernel_rfl) (fun K hK => ?_)
                    go_simp
                    refine ⟨_, fun _ _ => rfl, hK _ ?_⟩
                    clear hK K
                    refine anyR_load 3 rfl (by kernel_rfl) (by kernel_rfl) (by kernel_rfl) (.string X) rfl (fun wz hwz => ?_) (fun K hK => ?_)
                    · have y0 := cell_bw hc hwz
                      go_simp
                    go_simp
                    refine hK _ ?_
                    clear hK K
                    refine anyR_load 4 rfl (by kernel_rfl) (by kernel_rfl) (by kernel_rfl) (.agg #[.slice a S.length c, .slice a' L.length c']) rfl (fun wz hwz => ?_) (fun K hK => ?_)
                    · have y0 := cell_bw q0 hwz; have y1 := cell_bw q1 hwz
                      go_simp
                    go_simp
                    refine hK _ ?_
                    clear hK K
                    refine anyR_quiet 5 rfl (by kernel_rfl) (by kernel_rfl) (by kernel_rfl) (fun K hK => ?_)
                    go_simp
                    refine ⟨_, fun _ _ => rfl, hK _ ?_⟩
                    clear hK K
                    refine anyR_quiet 6 rfl (by kernel_rfl) (by kernel_rfl) (by kernel_rfl) (fun K hK => ?_)
                    go_simp
                    refine ⟨_, fun _ _ => rfl, hK _ ?_⟩
                    clear hK K
                    refine anyR_quiet 7 rfl (by kernel_rfl) (by kernel_rfl) (by kernel_rfl) (fun K hK => ?_)
                    go_simp
                    refine ⟨_, fun _ _ => rfl, hK _ ?_⟩
                    clear hK K
                    refine anyR_quiet 8 rfl (by kernel_rfl) (by kernel_rfl) (by kernel_rfl) (fun K hK => ?_)
                    go_simp
                    apply Exists.intro
                    refine ⟨fun wz hwz => ?_, hK _ ?_⟩
                    · go_at_call 59
                      exact (HR.out wz hwz).mono (fun _ _ h => ⟨h.1, h.2⟩)
                    clear hK K
                    refine anyR_quiet 9 rfl (by kernel_rfl) (by kernel_rfl) (by kernel_rfl) (fun K hK => ?_)
                    go_simp
                    refine ⟨_, fun _ _ => rfl, hK _ ?_⟩
                    clear hK K
                    refine anyR_nil (by kernel_rfl) (fun wz hwz => ?_)
                    have HBZ := hid (hbl.out.trans (Below.mono hwz hbl.out.size))
                    clear hwz HR
                    go_wp2_with fail
                    go_roundw
                    case rel => exact ⟨j + 1, by omega, by go_num, HT0.out, HBZ.out⟩
                    case measure => simp [intOf]; omega
                  · have hne := ne_list hXZ
                    have hne' : ((sAt T j).toList != (sAt E (p + j)).toList) = true := by rw [bne, hne]; rfl
                    have HA := hid (HAN.out (fun h => by
                      have h2 := HEQ.out.1 h.2
                      apply hXZ
                      rw [h2]
                      have := HEL.out
                      simp only [sAt, List.getD_eq_getElem?_getD]
                      rw [List.getElem?_take, if_pos hjl, List.getElem?_drop]))
                    generalize sAt T j = X at *
                    generalize sAt E (p + j) = Z at *
                    go_wp2_with fail
                    refine region_R (by kernel_rfl) ?_
                    refine anyR_quiet 0 rfl (by kernel_rfl) (by kernel_rfl) (by kernel_rfl) (fun K hK => ?_)
                    go_simp
                    refine ⟨_, fun _ _ => rfl, hK _ ?_⟩
                    clear hK K
                    refine anyR_quiet 1 rfl (by kernel_rfl) (by kernel_rfl) (by kernel_rfl) (fun K hK => ?_)
                    go_simp
                    refine ⟨_, fun _ _ => rfl, hK _ ?_⟩
                    clear hK K
                    refine anyR_quiet 2 rfl (by kernel_rfl) (by kernel_rfl) (by kernel_rfl) (fun K hK => ?_)
                    go_simp
                    refine ⟨_, fun _ _ => rfl, hK _ ?_⟩
                    clear hK K
                    refine anyR_load 3 rfl (by kernel_rfl) (by kernel_rfl) (by kernel_rfl) (.string X) rfl (fun wz hwz => ?_) (fun K hK => ?_)
                    · have y0 := cell_bw hc hwz
                      go_simp
                    go_simp
                    refine hK _ ?_
                    clear hK K
                    refine anyR_load 4 rfl (by kernel_rfl) (by kernel_rfl) (by kernel_rfl) (.agg #[.slice a S.length c, .slice a' L.length c']) rfl (fun wz hwz => ?_) (fun K hK => ?_)
                    · have y0 := cell_bw q0 hwz; have y1 := cell_bw q1 hwz
                      go_simp
                    go_simp
                    refine hK _ ?_
                    clear hK K
                    refine anyR_quiet 5 rfl (by kernel_rfl) (by kernel_rfl) (by kernel_rfl) (fun K hK => ?_)
                    go_simp
                    refine ⟨_, fun _ _ => rfl, hK _ ?_⟩
                    clear hK K
                    refine anyR_quiet 6 rfl (by kernel_rfl) (by kernel_rfl) (by kernel_rfl) (fun K hK => ?_)
                    go_simp
                    refine ⟨_, fun _ _ => rfl, hK _ ?_⟩
                    clear hK K
                    refine anyR_quiet 7 rfl (by kernel_rfl) (by kernel_rfl) (by kernel_rfl) (fun K hK => ?_)
                    go_simp
                    refine ⟨_, fun _ _ => rfl, hK _ ?_⟩
                    clear hK K
                    refine anyR_quiet 8 rfl (by kernel_rfl) (by kernel_rfl) (by kernel_rfl) (fun K hK => ?_)
                    go_simp
                    apply Exists.intro
                    refine ⟨fun wz hwz => ?_, hK _ ?_⟩
                    · go_at_call 59
                      exact (HR.out wz hwz).mono (fun _ _ h => ⟨h.1, h.2⟩)
                    clear hK K
                    refine anyR_quiet 9 rfl (by kernel_rfl) (by kernel_rfl) (by kernel_rfl) (fun K hK => ?_)
                    go_simp
                    refine ⟨_, fun _ _ => rfl, hK _ ?_⟩
                    clear hK K
                    refine anyR_nil (by kernel_rfl) (fun wz hwz => ?_)
                    have HBZ := hid (hbl.out.trans (Below.mono hwz hbl.out.size))
                    clear hwz HR
                    go_wp2_with fail
                    refine bodyPost_ret (v := .tuple #[.string ⟨#[]⟩, .int .i64 0, .bool false]) (by simp [results, Try.results64, go_sem]) rfl ?_
                    exact ⟨_, 0, _, rfl, HA.out, ((belowN B.out nd).trans (Below.mono hb.out hsz1)).trans (Below.mono HBZ.out (by have := hb.out.size; exact Nat.le_trans hsz1 this))⟩
                · obtain rfl : j = k := by omega
                  have hTE : T = (E.drop p).take j := s_ext (by
                    have := HEL.out
                    rw [hTm'.out]
                    simp
                    omega) (fun i hi => by
                    rw [hTm'.out] at hi
                    rw [hal.out i hi]
                    simp only [sAt, List.getD_eq_getElem?_getD]
                    rw [List.getElem?_take, if_pos hi, List.getElem?_drop])
                  have HA := hid (HAY.out ⟨by omega, HEQ.out.2 hTE⟩)
                  have hconv := (hown.out.below hbl.out).convB
                  clear hTE
                  go_wp2_with fail
                  refine bodyPost_ret (v := .tuple #[.string J, .int .i64 j, .bool true]) (by simp [results, Try.results64, go_sem]) rfl ?_
                  exact ⟨_, j, _, rfl, HA.out, ((belowN B.out nd).trans (Below.mono hb.out hsz1)).trans (Below.mono hbl.out (by have := hb.out.size; exact Nat.le_trans hsz1 this))⟩
            · have bT : ((T.length : Int) != (k : Int)) = true := by simp; omega
              have HA := hid (HAN.out (fun h => by
                have h2 := congrArg List.length (HEQ.out.1 h.2)
                simp at h2
                have := HEL.out
                omega))
              go_wp2_with fail
              refine bodyPost_ret (v := .tuple #[.string ⟨#[]⟩, .int .i64 0, .bool false]) (by simp [results, Try.results64, go_sem]) rfl ?_
              exact ⟨_, 0, _, rfl, HA.out, (belowN B.out nd).trans (Below.mono hb.out hsz1)⟩
    · have h12' : ((sAt E p).size : Int) < 12 := by omega
      have HGW := hid (fun wz => spec_getWord_no (sAt E p) 8 wz (by omega) (by omega))
      have HA := hid (HAN.out (fun h => by omega))
      go_wp2_with fail
      refine (HGW.out _).mono ?_
      rintro e w2 ⟨rfl, nd, rfl⟩
      go_wp2_with fail
      refine bodyPost_ret (v := .tuple #[.string ⟨#[]⟩, .int .i64 0, .bool false]) (by simp [results, Try.results64, go_sem]) rfl ?_
      exact ⟨_, 0, _, rfl, HA.out, belowN B.out _⟩
end Go.Proofs.Ytphhgfgmlfdkiaa
