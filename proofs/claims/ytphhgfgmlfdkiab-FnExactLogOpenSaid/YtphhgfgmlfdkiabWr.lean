/- Contracts of DiskWrite, of the program and of the specification. -/
import Derived.Test.YtphhgfgmlfdkiabCp
import Derived.Test.YtphhgfgmlfdkiabFr
namespace Go.Proofs.Ytphhgfgmlfdkiab
open Go.RowKit
set_option linter.unusedVariables false

/-- A write may come behind. -/
def wrB (S : List ByteArray) (L : List (Int × ByteArray)) (i : Int) (s : ByteArray) : Bool := okB S L && (hasS S.length i && (decide (s.size ≤ 128) && decide (L.length < 3000)))
/-- What is late then. -/
def wrL (S : List ByteArray) (L : List (Int × ByteArray)) (i : Int) (s : ByteArray) : List (Int × ByteArray) := if wrB S L i s = true then L ++ [(i, s)] else L
theorem wrL_yes {S : List ByteArray} {L : List (Int × ByteArray)} {i : Int} {s : ByteArray} (h : wrB S L i s = true) : wrL S L i s = L ++ [(i, s)] := by unfold wrL; rw [if_pos h]
theorem wrL_no {S : List ByteArray} {L : List (Int × ByteArray)} {i : Int} {s : ByteArray} (h : wrB S L i s = false) : wrL S L i s = L := by unfold wrL; rw [if_neg (by rw [h]; exact Bool.noConfusion)]
theorem wrL_len (S : List ByteArray) (L : List (Int × ByteArray)) (i : Int) (s : ByteArray) : (wrL S L i s).length ≤ L.length + 1 := by
  unfold wrL
  split
  · simp
  · omega
theorem one_W (i : Int) (s : ByteArray) : ∀ u ∈ [Value.int .i64 i, .string s], u.oneCell' = true := fun u hu => by
  simp at hu
  rcases hu with rfl | rfl <;> rfl
theorem encW_snoc (L : List (Int × ByteArray)) (i : Int) (s : ByteArray) : encW L ++ [.int .i64 i, .string s] = encW (L ++ [(i, s)]) := by rw [encW_app]; rfl

theorem OwG.cast2 {w : World} {base e sz : Nat} {v : Value} {n n' : Nat} {cs cs' : List Value} (h : OwG w base e sz v n cs) (hn : n = n') (hc : cs = cs') : OwG w base e sz v n' cs' := by subst hn; subst hc; exact h

end Go.Proofs.Ytphhgfgmlfdkiab
