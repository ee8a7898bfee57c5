/- The contracts of strings.Builder's WriteString and String (the library's, laid at this program), and of slices.Equal over texts. -/
import Derived.Test.YtphhgfgmlfdkiaaLg
import Derived.Test.YtphhgfgmlfdkiaaSat
import Derived.Shelf.Strings.Builder1
namespace Go.Proofs.Ytphhgfgmlfdkiaa
open Go.RowKit Go.Shelf
set_option linter.unusedVariables false
set_option maxRecDepth 4000

def Try.ren166 : Ren := { f := fun x => match x with | 166 => 80 | 240 => 91 | 276 => 92 | n => n, t := fun x => match x with | 70 => 110 | 72 => 112 | 37 => 22 | 75 => 114 | 80 => 117 | 164 => 125 | n => n, g := fun n => n }
theorem Try.lays166 : Lays.n166 Try.prog Try.ren166 := {
  mixed := by kernel_rfl
  f166 := Try.func80.trans (by kernel_rfl)
  f240 := Try.func91.trans (by kernel_rfl)
  f276 := Try.func92.trans (by kernel_rfl)
  t0 := Try.underlying0
  a0 := Try.isAgg0
  z0 := Try.sizeOf0
  v0 := Try.zeroValue0
  t3 := Try.underlying3
  a3 := Try.isAgg3
  z3 := Try.sizeOf3
  v3 := Try.zeroValue3
  t4 := Try.underlying4
  a4 := Try.isAgg4
  z4 := Try.sizeOf4
  v4 := Try.zeroValue4
  t9 := Try.underlying9
  a9 := Try.isAgg9
  z9 := Try.sizeOf9
  v9 := Try.zeroValue9
  t20 := Try.underlying20
  a20 := Try.isAgg20
  z20 := Try.sizeOf20
  v20 := Try.zeroValue20
  t37 := Try.underlying22
  a37 := Try.isAgg22
  z37 := Try.sizeOf22
  v37 := Try.zeroValue22
  t70 := Try.underlying110
  a70 := Try.isAgg110
  z70 := Try.sizeOf110
  v70 := Try.zeroValue110
  t72 := Try.underlying112
  a72 := Try.isAgg112
  z72 := Try.sizeOf112
  v72 := Try.zeroValue112
  t75 := Try.underlying114
  a75 := Try.isAgg114
  z75 := Try.sizeOf114
  v75 := Try.zeroValue114
  t164 := Try.underlying125
  a164 := Try.isAgg125
  z164 := Try.sizeOf125
  v164 := Try.zeroValue125 }
def Try.ren169 : Ren := { f := fun x => match x with | 169 => 81 | n => n, t := fun x => match x with | 70 => 110 | 72 => 112 | 37 => 22 | 127 => 124 | n => n, g := fun n => n }
theorem Try.lays169 : Lays.n169 Try.prog Try.ren169 := {
  mixed := by kernel_rfl
  f169 := Try.func81.trans (by kernel_rfl)
  t0 := Try.underlying0
  a0 := Try.isAgg0
  z0 := Try.sizeOf0
  v0 := Try.zeroValue0
  t3 := Try.underlying3
  a3 := Try.isAgg3
  z3 := Try.sizeOf3
  v3 := Try.zeroValue3
  t9 := Try.underlying9
  a9 := Try.isAgg9
  z9 := Try.sizeOf9
  v9 := Try.zeroValue9
  t37 := Try.underlying22
  a37 := Try.isAgg22
  z37 := Try.sizeOf22
  v37 := Try.zeroValue22
  t70 := Try.underlying110
  a70 := Try.isAgg110
  z70 := Try.sizeOf110
  v70 := Try.zeroValue110
  t72 := Try.underlying112
  a72 := Try.isAgg112
  z72 := Try.sizeOf112
  v72 := Try.zeroValue112
  t127 := Try.underlying124
  a127 := Try.isAgg124
  z127 := Try.sizeOf124
  v127 := Try.zeroValue124 }
theorem Try.extra166 : Builder.Extra Try.prog Try.ren166 := {
  sizeBuilder := by kernel_rfl
  liesBuilder := by kernel_rfl
  t5 := Try.underlying5
  a5 := Try.isAgg5
  z5 := Try.sizeOf5
  v5 := Try.zeroValue5
  infoByte := by kernel_rfl
  cellsByte := by kernel_rfl
  sizeByte := by kernel_rfl
  neB5 := by decide }
theorem Try.extra169 : Builder.Extra Try.prog Try.ren169 := {
  sizeBuilder := by kernel_rfl
  liesBuilder := by kernel_rfl
  t5 := Try.underlying5
  a5 := Try.isAgg5
  z5 := Try.sizeOf5
  v5 := Try.zeroValue5
  infoByte := by kernel_rfl
  cellsByte := by kernel_rfl
  sizeByte := by kernel_rfl
  neB5 := by decide }

/-- A builder that holds a text. -/
def Bld (w : World) (B b : Nat) (x : ByteArray) : Prop := Lib.IsBuilder 112 5 B b (Lib.byteCells x.data.toList) w
theorem bld_write (B b : Nat) (x s : ByteArray) (w : World) (h : Bld w B b x) (hl : x.size + s.size ≤ 1000000000) (hB : B ≤ w.heap.size) :
    Calls Try.prog 80 #[.pointer (some ⟨b, 0, none⟩), .string s] w fun e w' => e = .returned (.tuple #[.int .i64 s.size, .nilIface]) ∧ Bld w' B b (x ++ s) ∧ Below B w w' := by
  have hx : x.data.toList.length = x.size := by simp
  have := Any.Builder_WriteString Try.lays166 Try.extra166 B b (Lib.byteCells x.data.toList) s w h (by rw [Lib.byteCells_length, hx]; omega) hB
  refine this.mono fun e w' ⟨he, h1, h2⟩ => ⟨he, ?_, h2⟩
  refine Or.inr ?_
  have e : Lib.byteCells (x ++ s).data.toList = Lib.byteCells x.data.toList ++ Lib.strCells s := by
    simp [Lib.byteCells, Lib.strCells]
  rw [e]
  exact h1
theorem bld_string (B b : Nat) (x : ByteArray) (w : World) (h : Bld w B b x) (hB : B ≤ w.heap.size) :
    Calls Try.prog 81 #[.pointer (some ⟨b, 0, none⟩)] w fun e w' => e = .returned (.string x) ∧ Below B w w' :=
  (Any.Builder_String_any Try.lays169 Try.extra169 B b x.data.toList w h hB).mono fun e w' ⟨he, hb⟩ => ⟨he, hb⟩
theorem bld_new (w : World) : Bld (w.alloc (.cells #[.pointer none, .slice none 0 0] 112)) w.heap.size w.heap.size ByteArray.empty := Lib.fresh_isBuilder 112 5 w

set_option maxHeartbeats 800000 in
theorem equal_texts (ao bo : Option Addr) (cap cap' : Nat) (S T : List ByteArray) (w : World) (hn : S.length ≤ 4194304) (hm : T.length ≤ 4194304) (ha : Rw w ao (encS S)) (hb : Rw w bo (encS T)) :
    Calls Try.prog 82 #[.slice ao S.length cap, .slice bo T.length cap'] w fun e w' => e = .returned (.bool (decide (S = T))) ∧ Below w.heap.size w w' := by
  have HA := hid ha
  have HB := hid hb
  clear ha hb
  by_cases hl : S.length = T.length
  · have b0 : ((S.length : Int) != (T.length : Int)) = false := by simp [hl]
    have HL := hid hl
    have HD := hid (show ∀ b, (b = true ↔ S = T) → decide (S = T) = b from fun b h => by cases b <;> simp_all)
    generalize decide (S = T) = R at *
    clear hl
    go_enter Try.func82, Try.ntmps82
    go_wp2_with fail
    go_loopw [13] (fun i wr => ∃ k : Nat, k ≤ S.length ∧ i = .int .i64 k ∧ Hid (∀ x, x < k → sAt S x = sAt T x) ∧ ∃ q, wr = w.drewN q) (fun i _ => S.length - (intOf i).toNat)
    case atStart => exact ⟨0, by omega, rfl, fun x hx => by omega, 0, rfl⟩
    case round =>
      obtain ⟨k, hk, rfl, hal, q, rfl⟩ := hrel
      by_cases hlt : k < S.length
      · have hlt' : (k : Int) < (S.length : Int) := by omega
        have hlt2 : (k : Int) < (T.length : Int) := by rw [← HL.out]; exact hlt'
        obtain ⟨b, off, rfl, hc⟩ := HA.out.atS k hlt
        obtain ⟨b', off', rfl, hc'⟩ := HB.out.atS k (by rw [← HL.out]; exact hlt)
        by_cases hXY : sAt S k = sAt T k
        · have HAL := hid (show ∀ x, x < k + 1 → sAt S x = sAt T x from fun x hx => by
            by_cases e : x = k
            · subst e; exact hXY
            · exact hal.out x (by omega))
          rw [← hXY] at hc'
          clear hXY
          generalize sAt S k = X at *
          have hXX : (X.toList != X.toList) = false := by simp
          go_wp2
          go_quiet (fail)
          go_wp2
          go_roundw
          case rel => exact ⟨k + 1, by omega, by go_num, HAL.out, _, rfl⟩
          case measure => simp [intOf]; omega
        · have hne := ne_list hXY
          have hR := HD.out false ⟨fun h => (by cases h), fun h => (by rw [h] at hXY; exact absurd rfl hXY)⟩
          subst hR
          generalize sAt S k = X at *
          generalize sAt T k = Y at *
          have hne' : (X.toList != Y.toList) = true := by rw [bne, hne]; rfl
          go_wp2
          go_quiet (fail)
          go_wp2
          go_ret
          exact ⟨rfl, belowN (belowN (Below.refl _ _) _) _⟩
      · obtain rfl : k = S.length := by omega
        have hR := HD.out true ⟨fun _ => s_ext HL.out hal.out, fun _ => rfl⟩
        subst hR
        go_wp2
        go_ret
        exact ⟨rfl, belowN (Below.refl _ _) _⟩
  · have b0 : ((S.length : Int) != (T.length : Int)) = true := by simp; omega
    have hd : decide (S = T) = false := decide_eq_false (fun e => hl (congrArg List.length e))
    rw [hd]
    go_enter Try.func82, Try.ntmps82
    go_wp2_with fail
    go_ret
    exact ⟨rfl, Below.refl _ _⟩
end Go.Proofs.Ytphhgfgmlfdkiaa
