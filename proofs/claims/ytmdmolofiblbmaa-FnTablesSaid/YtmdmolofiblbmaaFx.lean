/- Plain: codes come back from their bytes. -/
import Derived.Test.YtmdmolofiblbmaaGc
import Derived.Test.YtmdmolofiblbmaaBp
namespace Go.Proofs.Ytmdmolofiblbmaa
open Go.RowKit
set_option linter.unusedVariables false

theorem bt_str (xs : List Int) (hb : Byt xs) (j : Nat) (hj : j < xs.length) : bt (strOfNums xs) j = xs.getD j 0 := by
  have h := hb j hj
  rw [bt_eq _ _ (by rw [strOfNums_size]; exact hj)]
  have e : (strOfNums xs)[j]'(by rw [strOfNums_size]; exact hj) = UInt8.ofNat (xs.getD j 0).toNat := by
    show (strOfNums xs).data[j]'_ = _
    simp [strOfNums, List.getD, hj]
  rw [e]
  have : (UInt8.ofNat (xs.getD j 0).toNat).toNat = (xs.getD j 0).toNat := by
    simp only [UInt8.toNat_ofNat']
    omega
  rw [this]
  omega
theorem Byt.append {xs ys : List Int} (h : Byt xs) (k : Byt ys) : Byt (xs ++ ys) := fun j hj => by
  rw [List.length_append] at hj
  by_cases e : j < xs.length
  · have := h j e
    rw [show (xs ++ ys).getD j 0 = xs.getD j 0 from by simp only [List.getD, List.getElem?_append_left e]]
    exact this
  · have := k (j - xs.length) (by omega)
    rw [show (xs ++ ys).getD j 0 = ys.getD (j - xs.length) 0 from by simp only [List.getD, List.getElem?_append_right (show xs.length ≤ j by omega)]]
    exact this
theorem bts_str (a b c : List Int) (h : Byt (a ++ (b ++ c))) : bts (strOfNums (a ++ (b ++ c))) a.length b.length = b := by
  refine list_eq_of_getD (by rw [bts_length]) (fun i hi => ?_)
  rw [bts_length] at hi
  rw [bts_get _ _ _ _ hi, bt_str _ h _ (by simp; omega)]
  simp only [List.getD]
  rw [List.getElem?_append_right (by omega), Nat.add_sub_cancel_left, List.getElem?_append_left hi]
/-- Codes come back from their bytes, wherever these stand. -/
theorem get_back (cs ss a z : List Int) (h : rightC cs ss = true) (ha : Byt a) (hz : Byt z) : getR (strOfNums (a ++ (cs ++ (ss ++ z)))) (a.length : Int) = some (cs, ss) := by
  obtain ⟨h16, b1, b2, l1, l2⟩ := right_byt h
  have hb : Byt (a ++ (cs ++ (ss ++ z))) := ha.append (b1.append (b2.append hz))
  have e1 := bts_str a cs (ss ++ z) hb
  have hr := h
  unfold rightC at hr
  simp only [Bool.and_eq_true, decide_eq_true_eq] at hr
  have hg : goodC cs = true := by
    by_cases hg : goodC cs = true
    · exact hg
    · have := hr.1
      unfold toldR at this
      rw [if_neg hg] at this
      omega
  have ht : told cs 16 = (ss.length : Int) := by
    have := hr.1
    unfold toldR at this
    rw [if_pos hg] at this
    exact this
  have e2 := bts_str (a ++ cs) ss z (by rw [List.append_assoc]; exact hb)
  rw [List.append_assoc, List.length_append, h16] at e2
  rw [h16] at e1
  rw [getR_at, cdR_def, e1, ht]
  have e3 : ((ss.length : Int)).toNat = ss.length := by omega
  rw [e3, e2, if_pos ⟨by rw [strOfNums_size]; simp [h16], hg, by rw [strOfNums_size]; simp [h16]; omega, h⟩]
theorem get_cut (cs ss : List Int) (h : rightC cs ss = true) : getR ((strOfNums (cs ++ ss)).extract 0 (cs.length + ss.length - 1)) 0 = none := by
  obtain ⟨h16, b1, b2, l1, l2⟩ := right_byt h
  have hN : Byt [] := fun j hj => by simp at hj
  have hb : Byt ([] ++ (cs ++ ss)) := hN.append (b1.append b2)
  have e1 := bts_str [] cs ss hb
  have hr := h
  unfold rightC at hr
  simp only [Bool.and_eq_true, decide_eq_true_eq] at hr
  have hg : goodC cs = true := by
    by_cases hg : goodC cs = true
    · exact hg
    · have := hr.1
      unfold toldR at this
      rw [if_neg hg] at this
      omega
  have ht : told cs 16 = (ss.length : Int) := by
    have := hr.1
    unfold toldR at this
    rw [if_pos hg] at this
    exact this
  rw [List.nil_append, List.length_nil, h16] at e1
  have hsz : (strOfNums (cs ++ ss)).size = 16 + ss.length := by rw [strOfNums_size, List.length_append, h16]
  have e2 := bts_ext (strOfNums (cs ++ ss)) 0 (cs.length + ss.length - 1) 16 (by omega) (by omega)
  rw [e1] at e2
  have := getR_at ((strOfNums (cs ++ ss)).extract 0 (cs.length + ss.length - 1)) 0
  have e0 : ((0 : Nat) : Int) = 0 := rfl
  rw [e0] at this
  rw [this, cdR_def, e2, ht, if_neg]
  rintro ⟨_, _, h3, _⟩
  rw [ByteArray.size_extract] at h3
  omega
end Go.Proofs.Ytmdmolofiblbmaa
