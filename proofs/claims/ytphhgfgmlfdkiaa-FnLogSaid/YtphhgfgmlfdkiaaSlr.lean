/- The contract of LogRead of the specification. -/
import Derived.Test.YtphhgfgmlfdkiaaSat
namespace Go.Proofs.Ytphhgfgmlfdkiaa
open Go.RowKit
set_option linter.unusedVariables false

/-- What LogRead tells of a disk. -/
def LogR (S : List ByteArray) (L : List (Int × ByteArray)) (o : List ByteArray) (p : Nat) : Prop := (okB S L = true ∧ Log (eff S L) o p) ∨ (okB S L = false ∧ o = [] ∧ p = 0)
theorem LogR.same {S : List ByteArray} {L : List (Int × ByteArray)} {o1 o2 : List ByteArray} {p1 p2 : Nat} (h : LogR S L o1 p1) (k : LogR S L o2 p2) : o1 = o2 ∧ p1 = p2 := by
  rcases h with ⟨a, h⟩ | ⟨a, rfl, rfl⟩ <;> rcases k with ⟨b, k⟩ | ⟨b, rfl, rfl⟩
  · exact h.same k
  · rw [a] at b; cases b
  · rw [a] at b; cases b
  · exact ⟨rfl, rfl⟩

set_option maxRecDepth 100000 in
set_option maxHeartbeats 3200000 in
theorem spec_logRead (v : Value) (S : List ByteArray) (L : List (Int × ByteArray)) (w : World) (hv : DV w v S L) :
    Calls Try.prog 30 #[v] w fun e w' => ∃ v' o p, e = .returned (.tuple #[v', .int .i64 (p : Nat)]) ∧ OwG w' w.heap.size 9 1 v' o.length (encS o) ∧ LogR S L o p ∧ Below w.heap.size w w' := by
  obtain ⟨a, c, a', c', rfl, r1, r2⟩ := hv
  have hv0 : DV w (.agg #[.slice a S.length c, .slice a' L.length c']) S L := ⟨_, _, _, _, rfl, r1, r2⟩
  obtain ⟨n1, n2, n3⟩ := new_two w [.slice a S.length c, .slice a' L.length c'] [] 27 9
  have N := hid n1
  have B := hid n3
  have V := hid (hv0.below (Nat.le_refl _) n3)
  have HO := hid (OwG.empty (w.alloc (.cells #[.slice a S.length c, .slice a' L.length c'] 27)) (w.heap.size + 1) 9 1 (by simp))
  have hsz0 : (w.alloc (.cells #[.slice a S.length c, .slice a' L.length c'] 27)).heap.size = w.heap.size + 1 := by simp
  rw [hsz0] at HO
  have V0 := hid hv0
  clear r1 r2 hv0 n1 n2 n3 hsz0
  have HOK := hid (fun wz (hz : DV wz (.agg #[.slice a S.length c, .slice a' L.length c']) S L) => spec_ok _ S L wz hz)
  have q0 := N.out.cell (i := 0) rfl
  have q1 := N.out.cell (i := 1) rfl
  cases hO1 : okB S L with
  | false =>
    rw [hO1] at HOK
    have HA := hid (show LogR S L [] 0 from .inr ⟨hO1, rfl, rfl⟩)
    go_enter Try.func30, Try.ntmps30
    go_wp2_with fail
    refine (HOK.out _ V.out).mono ?_
    generalize (w.alloc _).alloc _ = wa at *
    rintro e w1 ⟨rfl, hb⟩
    replace B := hid (B.out.trans (hb.mono B.out.size))
    replace HO := hid (HO.out.below hb)
    clear hb
    go_wp2_with fail
    refine bodyPost_ret (v := .tuple #[.slice (some ⟨w.heap.size + 1, 0, none⟩) 0 0, .int .i64 0]) (by simp [results, Try.results30, go_sem]) rfl ?_
    exact ⟨_, [], 0, rfl, HO.out.mono (by omega), HA.out, B.out⟩
  | true =>
    rw [hO1] at HOK
    have hD := okB_iff hO1
    have HAT := hid (fun p q wz (hp : p ≤ 1500) (hq : 1 ≤ q ∧ q ≤ 10000) (hz : DV wz (.agg #[.slice a S.length c, .slice a' L.length c']) S L) => spec_at _ S L p q wz hD hp hq hz)
    have HLR := hid (show ∀ o p, Log (eff S L) o p → LogR S L o p from fun o p h => .inl ⟨hO1, h⟩)
    have hS1 : S.length ≤ 1500 := hD.1.1
    have HEL := hid (eff_len S L)
    clear hD
    generalize eff S L = E at *
    go_enter Try.func30, Try.ntmps30
    go_wp2_with fail
    refine (HOK.out _ V.out).mono ?_
    generalize (w.alloc _).alloc _ = wa at *
    rintro e w1 ⟨rfl, hb⟩
    replace B := hid (B.out.trans (hb.mono B.out.size))
    replace N := hid (N.out.below hb N.out.lt)
    replace V := hid (V.out.below (Nat.le_refl _) hb)
    replace HO := hid (HO.out.below hb)
    have hN := N.out.lt
    clear hb q0 q1 HOK
    go_wp2_with fail
    go_loopw [4, 5] (fun v x wr => ∃ (o : List ByteArray) (p : Nat), x = .int .i64 p ∧ Hid (Run E o.length o p) ∧ o.length ≤ 1500 ∧ Hid (OwG wr (w.heap.size + 1) 9 1 v o.length (encS o)) ∧ Hid (DV wr (.agg #[.slice a S.length c, .slice a' L.length c']) S L) ∧ Hid (Blk wr w.heap.size [.slice a S.length c, .slice a' L.length c'] 27) ∧ Hid (Below w.heap.size w wr)) (fun _ x _ => E.length - (intOf x).toNat)
    case atStart => exact ⟨[], 0, rfl, ⟨rfl, rfl⟩, by simp, HO.out, V.out, N.out, B.out⟩
    case round =>
      clear HO V N B
      obtain ⟨o, p, rfl, hrun, hol, hown, V, N, B⟩ := hrel
      have hle := hrun.out.le (by omega)
      have hEl := HEL.out
      obtain ⟨oa, oc, rfl, _, _⟩ := hown.out.shape
      have q0 := N.out.cell (i := 0) rfl
      have q1 := N.out.cell (i := 1) rfl
      have HR := hid (HAT.out p (o.length + 1) wr (by omega) (by omega) V.out)
      rw [Int.natCast_add] at HR
      go_wp2_with fail
      refine HR.out.mono ?_
      clear HR q0 q1
      rintro e w2 ⟨s, n, b, rfl, hat, hb⟩
      replace hown := hid (hown.out.below hb)
      replace V := hid (V.out.below (Nat.le_refl _) hb)
      replace N := hid (N.out.below hb N.out.lt)
      replace B := hid (B.out.trans (hb.mono B.out.size))
      clear hb
      rcases hat with ⟨rfl, hat⟩ | ⟨rfl, hat⟩
      · have hpos := atR_pos (by omega) hat
        have HRN := hid (show Run E (o ++ [s]).length (o ++ [s]) (p + n) from by rw [List.length_append]; exact ⟨o, p, s, n, hrun.out, hat, rfl, rfl⟩)
        have hone : ∀ u ∈ [Value.string s], u.oneCell' = true := fun u hu => by simp at hu; subst hu; rfl
        have hnn : (p : Int) + (n : Int) ≤ 1500 := by omega
        have hno : o.length + 1 ≤ 1500 := by omega
        clear hat
        go_wp2_with (at_builtin; refine wpList_pushG w2 w2.heap.size rfl rfl _ _ 24 rfl (w.heap.size + 1) 9 (.string ByteArray.empty) 1 16 Try.underlying24 Try.info9 rfl (by decide) (.slice oa o.length oc) o.length (encS o) rfl hown.out [.string s] rfl hone rfl (by omega) (by decide) ?_)
        intro v3 w3 ho3 hb3 hg3 _
        obtain ⟨va3, vc3, rfl, _, _⟩ := ho3.shape
        have HO3 := hid (show OwG w3 (w.heap.size + 1) 9 1 (.slice va3 (o.length + 1) vc3) (o ++ [s]).length (encS (o ++ [s])) from by rw [List.length_append, encS_app]; exact ho3)
        have N3 := hid (N.out.below hb3 (by omega))
        have B3 := hid (B.out.trans (hb3.mono (by omega)))
        have V3 := hid (V0.out.below (Nat.le_refl _) B3.out)
        clear ho3 hb3 hg3 N B V hown
        go_wp2_with fail
        go_roundw
        case rel => exact ⟨o ++ [s], p + n, by go_num, HRN.out, by rw [List.length_append]; exact hno, HO3.out, V3.out, N3.out, B3.out⟩
        case measure => simp [intOf]; omega
      · have HA := hid (HLR.out o p ⟨hrun.out, hat⟩)
        go_wp2_with fail
        refine bodyPost_ret (v := .tuple #[.slice oa o.length oc, .int .i64 p]) (by simp [results, Try.results30, go_sem]) rfl ?_
        exact ⟨_, o, p, rfl, hown.out.mono (by omega), HA.out, B.out⟩
end Go.Proofs.Ytphhgfgmlfdkiaa
