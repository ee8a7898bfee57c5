/- The writes that leave nothing from a sector on: plain, and the contract of emptied. -/
import Derived.Test.YtphhgfgmlfdkiaaSat
import Derived.Test.YtphhgfgmlfdkiaaWr
namespace Go.Proofs.Ytphhgfgmlfdkiaa
open Go.RowKit
set_option linter.unusedVariables false

/-- The writes of the first k sectors. -/
def emTo (E : List ByteArray) (f : Nat) : Nat → List (Int × ByteArray)
  | 0 => []
  | k + 1 => if f ≤ k ∧ (sAt E k).size ≠ 0 then emTo E f k ++ [((k : Int), ByteArray.empty)] else emTo E f k
theorem emTo_yes {E : List ByteArray} {f k : Nat} (h : f ≤ k ∧ (sAt E k).size ≠ 0) : emTo E f (k + 1) = emTo E f k ++ [((k : Int), ByteArray.empty)] := by rw [emTo, if_pos h]
theorem emTo_no {E : List ByteArray} {f k : Nat} (h : ¬ (f ≤ k ∧ (sAt E k).size ≠ 0)) : emTo E f (k + 1) = emTo E f k := by rw [emTo, if_neg h]
theorem emTo_len (E : List ByteArray) (f : Nat) : ∀ k, (emTo E f k).length ≤ k
  | 0 => Nat.le_refl _
  | k + 1 => by
    have := emTo_len E f k
    by_cases h : f ≤ k ∧ (sAt E k).size ≠ 0
    · rw [emTo_yes h, List.length_append]; simp; omega
    · rw [emTo_no h]; omega
theorem emTo_early (E : List ByteArray) (f : Nat) : ∀ k, k ≤ f → emTo E f k = []
  | 0, _ => rfl
  | k + 1, h => by rw [emTo_no (by omega)]; exact emTo_early E f k (by omega)
theorem emTo_in (E : List ByteArray) (f : Nat) : ∀ k x, x ∈ emTo E f k → f ≤ x.1.toNat ∧ 0 ≤ x.1 ∧ x.1 < k ∧ x.2 = ByteArray.empty
  | 0, x, h => by simp [emTo] at h
  | k + 1, x, h => by
    by_cases hc : f ≤ k ∧ (sAt E k).size ≠ 0
    · rw [emTo_yes hc, List.mem_append] at h
      rcases h with h | h
      · obtain ⟨a, b, c, d⟩ := emTo_in E f k x h
        exact ⟨a, b, by omega, d⟩
      · simp at h
        subst h
        exact ⟨by simpa using hc.1, by simp, by simp; omega, rfl⟩
    · rw [emTo_no hc] at h
      obtain ⟨a, b, c, d⟩ := emTo_in E f k x h
      exact ⟨a, b, by omega, d⟩
theorem size_ne {x : ByteArray} (h : x.size ≠ 0) : x ≠ ByteArray.empty := fun e => h (by rw [e]; rfl)
theorem size_eq {x : ByteArray} (h : x.size = 0) : x = ByteArray.mk #[] := ByteArray.ext (Array.eq_empty_of_size_eq_zero h)

theorem not_empty {X : ByteArray} (h : X.size ≠ 0) : X.toList.isEmpty = false := by
  cases hc : X.toList with
  | nil =>
    have h1 := toList_loop X X.size 0 [] (by omega)
    have h2 : X.toList = X.data.toList := by
      unfold ByteArray.toList
      rw [h1]
      simp
    rw [h2] at hc
    exact absurd (show X.size = 0 from by rw [← ByteArray.size_data, ← Array.length_toList, hc]; rfl) h
  | cons a b => rfl

set_option maxRecDepth 100000 in
set_option maxHeartbeats 3200000 in
theorem emptied_any (v : Value) (S : List ByteArray) (L : List (Int × ByteArray)) (f : Nat) (w : World) (hok : DOk S L) (hv : DP w v S L) :
    Calls Try.prog 51 #[v, .int .i64 f] w fun e w' => ∃ v', e = .returned v' ∧ OwG w' w.heap.size 69 2 v' (emTo (eff S L) f S.length).length (encW (emTo (eff S L) f S.length)) ∧ Below w.heap.size w w' := by
  have hn1 : S.length ≤ 1500 := hok.1.1
  obtain ⟨a, c, a', c', e0, r1, r2, p1, p2⟩ := id hv
  subst e0
  obtain ⟨n1, n2, n3⟩ := new_two w [.slice a S.length c, .slice a' L.length c'] [] 27 69
  have OT0 := OwG.empty (w.alloc (.cells #[.slice a S.length c, .slice a' L.length c'] 27)) (w.heap.size + 1) 69 2 (by simp)
  rw [show (w.alloc (.cells #[.slice a S.length c, .slice a' L.length c'] 27)).heap.size = w.heap.size + 1 by simp] at OT0
  have OT := hid OT0
  have N := hid n1
  have B := hid n3
  have V := hid (hv.below (Nat.le_refl _) n3)
  have HOW := hid (open_whole _ S L _ hok V.out)
  have HRA := hid (fun ao c b m wz hr h => read_all ao c b m S (mpTo L L.length) wz hn1 hr h)
  have HEL := hid (eff_len S L)
  have HEF : Hid (raL (mpTo L L.length) S = eff S L) := hid rfl
  rw [HEF.out] at HRA
  have q0 := N.out.cell (i := 0) rfl
  have q1 := N.out.cell (i := 1) rfl
  have hsz : w.heap.size + 2 = ((w.alloc (.cells #[.slice a S.length c, .slice a' L.length c'] 27)).alloc (.cells #[] 69)).heap.size := by simp
  generalize eff S L = E at *
  clear n1 n2 n3 OT0 r1 r2 p1 p2 hv hok HEF V N
  go_enter Try.func51, Try.ntmps51
  go_wp2_with fail
  refine HOW.out.mono ?_
  clear q0 q1 HOW
  generalize (w.alloc _).alloc _ = w0 at *
  rintro e w1 ⟨va, bm, rfl, hoa, hmp, hbm, hb⟩
  obtain ⟨ya, yc, rfl, _, _⟩ := hoa.shape
  replace B := hid (B.out.trans (hb.mono B.out.size))
  replace OT := hid (OT.out.below hb)
  have hs01 := hb.size
  clear hb
  go_wp2_with fail
  refine (HRA.out _ _ _ _ _ hoa.rw hmp).mono ?_
  rintro e w2 ⟨ve, rfl, hoe, hb⟩
  obtain ⟨ea, ec, rfl, hep, hec⟩ := hoe.shape
  replace B := hid (B.out.trans (hb.mono B.out.size))
  replace OT := hid (OT.out.below hb)
  have HOE := hid hoe
  have hs12 := hb.size
  have HEB := hid (fun g (e : (Value.slice ea S.length ec).ownBlock = some g) => hoe.2.lt g e)
  clear hb hoa hmp hoe HRA
  go_wp2_with fail
  generalize hN : S.length = n at *
  replace HEL : Hid (E.length = n) := hid HEL.out
  have HNN := hid hN
  clear hN
  go_loopw [5, 13] (fun lv i wr => ∃ (k : Nat), k ≤ n ∧ i = .int .i64 k ∧ Hid (OwG wr (w.heap.size + 1) 69 2 lv (emTo E f k).length (encW (emTo E f k))) ∧ Hid (OwG wr w1.heap.size 9 1 (.slice ea n ec) n (encS E)) ∧ Hid (Below w.heap.size w wr)) (fun _ i _ => n - (intOf i).toNat)
  case atStart => exact ⟨0, by omega, rfl, OT.out, HOE.out, B.out⟩
  case round =>
    obtain ⟨k, hk, rfl, hown, hoe, hbb⟩ := hrel
    obtain ⟨oa, oc, rfl, _, _⟩ := hown.out.shape
    have hlb := emTo_len E f k
    by_cases hlt : k < n
    · obtain ⟨bl, off, rfl, hc1⟩ := hoe.out.rw.atS k (by rw [HEL.out]; exact hlt)
      have hlt' : (k : Int) < (n : Int) := by omega
      have HY := hid (fun h => emTo_yes (E := E) (f := f) (k := k) h)
      have HN := hid (fun h => emTo_no (E := E) (f := f) (k := k) h)
      generalize hX : sAt E k = X at *
      by_cases h1 : f ≤ k
      · have h1' : (f : Int) ≤ (k : Int) := by omega
        by_cases h2 : X.size = 0
        · have e2 := size_eq h2
          subst e2
          have HEN := hid (HN.out (by simp [h2]))
          clear HY HN hX
          go_wp2_with fail
          go_roundw
          case rel => exact ⟨k + 1, by omega, by go_num, by rw [HEN.out]; exact hown.out, hoe.out, hbb.out⟩
          case measure => simp [intOf]; omega
        · have HEN := hid (HY.out ⟨h1, h2⟩)
          have hne : X.toList.isEmpty = false := not_empty h2
          have hwr : w.heap.size + 1 ≤ wr.heap.size := hown.out.1
          have hl4 : (emTo E f k).length < 1000000000 := by omega
          have HAP := hid (hoe.out.apart hown.out (by decide))
          have HGE := hid (fun g e => (hown.out.2.lt g e).1)
          clear HY HN hX
          go_wp2_with (at_builtin; refine wpList_pushG wr wr.heap.size rfl rfl _ _ 25 rfl (w.heap.size + 1) 69 (.agg #[.int .i64 0, .string ByteArray.empty]) 2 24 Try.underlying25 Try.info69 rfl (by decide) (.slice oa (emTo E f k).length oc) (emTo E f k).length (encW (emTo E f k)) rfl hown.out [.int .i64 (k : Int), .string (ByteArray.mk #[])] rfl (one_W (k : Int) (ByteArray.mk #[])) rfl hl4 (by decide) ?_)
          intro v4 w4 ho4 hb4 hg4 _
          obtain ⟨va4, vc4, rfl, _, _⟩ := ho4.shape
          have HO4 := hid (show OwG w4 (w.heap.size + 1) 69 2 (.slice va4 ((emTo E f k).length + 1) vc4) (emTo E f (k + 1)).length (encW (emTo E f (k + 1))) from by rw [HEN.out, List.length_append, encW_app]; exact ho4)
          have HE4 := hid (hoe.out.kept hg4 HAP.out)
          have HB4 := hid (hbb.out.trans (hb4.mono (by omega)))
          clear ho4 hg4 hb4
          go_wp2_with fail
          go_roundw
          case rel => exact ⟨k + 1, by omega, by go_num, HO4.out, HE4.out, HB4.out⟩
          case measure => simp [intOf]; omega
      · have h1' : ¬ (f : Int) ≤ (k : Int) := by omega
        have HEN := hid (HN.out (fun h => h1 h.1))
        clear HY HN hX
        go_wp2_with fail
        go_roundw
        case rel => exact ⟨k + 1, by omega, by go_num, by rw [HEN.out]; exact hown.out, hoe.out, hbb.out⟩
        case measure => simp [intOf]; omega
    · obtain rfl : k = n := by omega
      go_wp2_with fail
      go_ret
      rw [HNN.out]
      exact ⟨_, rfl, hown.out.mono (base' := w.heap.size) (Nat.le_succ _), hbb.out⟩
end Go.Proofs.Ytphhgfgmlfdkiaa
