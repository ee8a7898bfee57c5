/- LogFree of both sides. -/
import Derived.Test.YtphhgfgmlfdkiabLr
import Derived.Test.YtphhgfgmlfdkiabLb
namespace Go.Proofs.Ytphhgfgmlfdkiab
open Go.RowKit
set_option linter.unusedVariables false

/-- How many sectors are free. -/
def FrR (S : List ByteArray) (L : List (Int × ByteArray)) (r : Int) : Prop := (okB S L = true ∧ ∃ o p, Log (eff S L) o p ∧ r = (S.length : Int) - (p : Int)) ∨ (okB S L = false ∧ r = -1)
theorem FrR.same {S : List ByteArray} {L : List (Int × ByteArray)} {r r' : Int} (h : FrR S L r) (k : FrR S L r') : r = r' := by
  rcases h with ⟨h0, o, p, h1, h2⟩ | ⟨h0, h1⟩
  · rcases k with ⟨k0, o', p', k1, k2⟩ | ⟨k0, k1⟩
    · obtain ⟨rfl, rfl⟩ := h1.same k1
      rw [h2, k2]
    · rw [h0] at k0; cases k0
  · rcases k with ⟨k0, _⟩ | ⟨k0, k1⟩
    · rw [h0] at k0; cases k0
    · rw [h1, k1]
theorem FrR.of {S : List ByteArray} {L : List (Int × ByteArray)} {o : List ByteArray} {p : Nat} (h0 : okB S L = true) (h : LogR S L o p) : FrR S L ((S.length : Int) - (p : Int)) ∧ p ≤ S.length ∧ S.length ≤ 1500 := by
  have hl := h.len
  have hd := (okB_iff h0).1.1
  rcases h with ⟨_, h⟩ | ⟨h1, _⟩
  · exact ⟨.inl ⟨h0, o, p, h, rfl⟩, hl.2, hd⟩
  · rw [h0] at h1; cases h1

set_option maxRecDepth 100000 in
set_option maxHeartbeats 3200000 in
theorem impl_logFree (v : Value) (S : List ByteArray) (L : List (Int × ByteArray)) (w : World) (hv : DP w v S L) :
    Calls Try.prog 16 #[v] w fun e w' => ∃ r, e = .returned (.int .i64 r) ∧ FrR S L r ∧ Below w.heap.size w w' := by
  obtain ⟨a, c, a', c', e0, r1, r2, p1, p2⟩ := id hv
  subst e0
  have B := hid ((Below.refl w.heap.size w).alloc (Nat.le_refl _) (.cells #[.slice a S.length c, .slice a' L.length c'] 29))
  have N := hid (Blk.new w [.slice a S.length c, .slice a' L.length c'] 29)
  have V := hid (hv.below (Nat.le_refl _) B.out)
  clear r1 r2 p1 p2 hv
  have q0 := N.out.cell (i := 0) rfl
  have q1 := N.out.cell (i := 1) rfl
  have HOK := hid (impl_ok _ S L _ V.out.dv)
  go_enter Try.func16, Try.ntmps16
  go_wp2_with fail
  refine HOK.out.mono ?_
  clear HOK q0 q1
  generalize w.alloc _ = w0 at *
  rintro e w1 ⟨rfl, hb⟩
  replace B := hid (B.out.trans (hb.mono B.out.size))
  replace N := hid (N.out.below hb N.out.lt)
  replace V := hid (V.out.below (Nat.le_refl _) hb)
  clear hb
  have q0 := N.out.cell (i := 0) rfl
  have q1 := N.out.cell (i := 1) rfl
  cases hO1 : okB S L with
  | false =>
    go_wp2_with fail
    go_ret
    exact ⟨_, rfl, .inr ⟨hO1, rfl⟩, B.out⟩
  | true =>
    have HLR := hid (impl_logRead _ S L _ V.out)
    go_wp2_with fail
    refine HLR.out.mono ?_
    rintro e w2 ⟨u, o, p, rfl, hou, hlr, hb⟩
    replace B := hid (B.out.trans (hb.mono B.out.size))
    replace N := hid (N.out.below hb N.out.lt)
    obtain ⟨f1, f2, f3⟩ := FrR.of hO1 hlr
    have HF := hid f1
    clear hb q0 q1 hou hlr f1 HLR
    have q0 := N.out.cell (i := 0) rfl
    have q1 := N.out.cell (i := 1) rfl
    have f2' : (p : Int) ≤ (S.length : Int) := by omega
    go_wp2_with fail
    go_ret
    exact ⟨_, rfl, HF.out, B.out⟩

set_option maxRecDepth 100000 in
set_option maxHeartbeats 3200000 in
theorem spec_logFree (v : Value) (S : List ByteArray) (L : List (Int × ByteArray)) (w : World) (hv : DV w v S L) :
    Calls Try.prog 15 #[v] w fun e w' => ∃ r, e = .returned (.int .i64 r) ∧ FrR S L r ∧ Below w.heap.size w w' := by
  obtain ⟨a, c, a', c', e0, r1, r2⟩ := id hv
  subst e0
  have B := hid ((Below.refl w.heap.size w).alloc (Nat.le_refl _) (.cells #[.slice a S.length c, .slice a' L.length c'] 29))
  have N := hid (Blk.new w [.slice a S.length c, .slice a' L.length c'] 29)
  have V := hid (hv.below (Nat.le_refl _) B.out)
  clear r1 r2 hv
  have q0 := N.out.cell (i := 0) rfl
  have q1 := N.out.cell (i := 1) rfl
  have HOK := hid (spec_ok _ S L _ V.out)
  go_enter Try.func15, Try.ntmps15
  go_wp2_with fail
  refine HOK.out.mono ?_
  clear HOK q0 q1
  generalize w.alloc _ = w0 at *
  rintro e w1 ⟨rfl, hb⟩
  replace B := hid (B.out.trans (hb.mono B.out.size))
  replace N := hid (N.out.below hb N.out.lt)
  replace V := hid (V.out.below (Nat.le_refl _) hb)
  clear hb
  have q0 := N.out.cell (i := 0) rfl
  have q1 := N.out.cell (i := 1) rfl
  cases hO1 : okB S L with
  | false =>
    go_wp2_with fail
    go_ret
    exact ⟨_, rfl, .inr ⟨hO1, rfl⟩, B.out⟩
  | true =>
    have HLR := hid (spec_logRead _ S L _ V.out)
    go_wp2_with fail
    refine HLR.out.mono ?_
    rintro e w2 ⟨u, o, p, rfl, hou, hlr, hb⟩
    replace B := hid (B.out.trans (hb.mono B.out.size))
    replace N := hid (N.out.below hb N.out.lt)
    obtain ⟨f1, f2, f3⟩ := FrR.of hO1 hlr
    have HF := hid f1
    clear hb q0 q1 hou hlr f1 HLR
    have q0 := N.out.cell (i := 0) rfl
    have q1 := N.out.cell (i := 1) rfl
    have f2' : (p : Int) ≤ (S.length : Int) := by omega
    go_wp2_with fail
    go_ret
    exact ⟨_, rfl, HF.out, B.out⟩
end Go.Proofs.Ytphhgfgmlfdkiab
