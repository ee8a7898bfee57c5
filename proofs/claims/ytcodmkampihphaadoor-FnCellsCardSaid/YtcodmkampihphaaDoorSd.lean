/- FromCells of the program and of the specification. -/
import Derived.Test.YtcodmkampihphaaDoorSc
namespace Go.Proofs.YtcodmkampihphaaDoor
open Go.RowKit
set_option linter.unusedVariables false

/-- Whether the cells are a block's, and the block of them. -/
def fcOk (S : List Int) : Bool := blkOk (S.getD 0 0) (acTo S 63)
def fcD (S : List Int) : Int := if fcOk S = true then S.getD 0 0 else 0
def fcA (S : List Int) : List Int := if fcOk S = true then acTo S 63 else []

theorem bown_zero (w : World) (base : Nat) (hb : base ≤ w.heap.size) : BOwn w base (.agg #[.int .i64 0, .slice none 0 0]) 0 [] := ⟨_, rfl, Own.nil _ _ _ _ hb⟩

set_option maxRecDepth 20000 in
set_option maxHeartbeats 800000 in
theorem impl_from (S : List Int) (hS : S.length = 64) (w : World) (hw : WayAt w) :
    Calls Tryd.prog 13 #[.agg (ivs S).toArray] w fun e w' => ∃ v, e = .returned (.tuple #[v, .bool (fcOk S)]) ∧ BOwn w' w.heap.size v (fcD S) (fcA S) ∧ Below w.heap.size w w' := by
  have HB0 := hid (((Below.refl w.heap.size w).alloc (Nat.le_refl _) (.cells (ivs S).toArray 30)).alloc (by simp) (.cells #[.int .i64 0, .slice none 0 0] 28))
  have HIB := hid (fun q (hq : Below w.heap.size w q) => impl_block S hS q (hw.below hq))
  have HS0 := hid ((Blk.new w (ivs S) 30).alloc (.cells #[.int .i64 0, .slice none 0 0] 28))
  have HR0 := hid (Blk.newG (w := w.alloc (.cells (ivs S).toArray 30)) (g := w.heap.size + 1) (by simp) [.int .i64 0, .slice none 0 0] 28)
  have HL := hid hS
  have HK := hid (acTo_len S 63)
  clear hS hw
  go_enter Tryd.func13, Tryd.ntmps13
  go_wp2_with (with_reducible refine at_load 30 ?_; refine wpList_loadR _ rfl 30 _ rfl w.heap.size (ivs S) HS0.out (by go_simp) 64 3 Tryd.underlying30 (size30L HL.out) ?_)
  refine (HIB.out _ HB0.out).mono ?_
  rintro e w1 ⟨v, rfl, hO, hb⟩
  have hsz : ((w.alloc (.cells (ivs S).toArray 30)).alloc (.cells #[.int .i64 0, .slice none 0 0] 28)).heap.size = w.heap.size + 1 + 1 := by simp
  rw [hsz] at hO hb
  obtain ⟨va, rfl, hOw⟩ := hO
  have HO := hid hOw
  have HB := hid (HB0.out.trans (hb.mono (by omega)))
  have HR := hid (HR0.out.below hb (by omega))
  have hs1 := HB.out.size
  have hs2 := hb.size
  rw [hsz] at hs2
  have HT := hid (Blk.new w1 [.int .i64 (S.getD 0 0), va] 28)
  have HOK := hid (impl_blockOk (.agg #[.int .i64 (S.getD 0 0), va]) (S.getD 0 0) (acTo S 63) (w1.alloc (.cells #[.int .i64 (S.getD 0 0), va] 28)) (by rw [HK.out]; decide) (BOwn.bv ⟨va, rfl, hOw.alloc _⟩))
  have q1 := HT.out.cell (i := 0) rfl
  have q2 := HT.out.cell (i := 1) rfl
  clear hOw hb hsz HB0 HIB HS0 HR0
  have HD : ∀ b, fcOk S = b → blkOk (S.getD 0 0) (acTo S 63) = b := fun b h => h
  cases hok : fcOk S with
  | true =>
    have hd : fcD S = S.getD 0 0 := by unfold fcD; rw [hok]; rfl
    have hA : fcA S = acTo S 63 := by unfold fcA; rw [hok]; rfl
    rw [HD _ hok] at HOK
    have HE := hid (And.intro hd hA)
    have HK2 := hid hok
    clear HD hok hd hA
    generalize hdd : S.getD 0 0 = d at *
    obtain ⟨ao, cap, rfl⟩ := HO.out.shape
    go_wp2_with fail
    refine HOK.out.mono ?_
    rintro e w2 ⟨rfl, hb2⟩
    have HT2 := hid (HT.out.below hb2 (by simp))
    have HR2 := hid ((HR.out.alloc (.cells #[.int .i64 d, .slice ao (acTo S 63).length cap] 28)).below hb2 (by simp; have := HR.out.lt; omega))
    have HO2 := hid ((HO.out.alloc (.cells #[.int .i64 d, .slice ao (acTo S 63).length cap] 28)).below hb2)
    have HB2 := hid ((HB.out.alloc (by omega) (.cells #[.int .i64 d, .slice ao (acTo S 63).length cap] 28)).trans (hb2.mono (by simp; omega)))
    have t1 := HT2.out.cell (i := 0) rfl
    have t2 := HT2.out.cell (i := 1) rfl
    have s0 := HR2.out.cell (i := 0) rfl
    have s1 := HR2.out.cell (i := 1) rfl
    have f0 := HR2.out.free 0
    have f1 := HR2.out.free 1
    have hne : ¬ w1.heap.size = w.heap.size + 1 := by omega
    clear hb2 q1 q2
    go_wp2_with fail
    refine bodyPost_ret (v := .tuple #[.agg #[.int .i64 d, .slice ao (acTo S 63).length cap], .bool true]) (by simp [results, Tryd.results13, go_sem, s0, s1]) rfl ⟨.agg #[.int .i64 d, .slice ao (acTo S 63).length cap], by rw [HK2.out], ?_, ?_⟩
    · rw [HE.out.1, HE.out.2]
      exact ⟨_, rfl, (((HO2.out.setCell_below (a := ⟨w.heap.size + 1, 0, none⟩) (Nat.lt_succ_self _) _).setCell_below (a := ⟨w.heap.size + 1, 1, none⟩) (Nat.lt_succ_self _) _)).mono (by omega)⟩
    · exact (HB2.out.setCell (p := ⟨w.heap.size + 1, 0, none⟩) (Nat.le_succ _) _).setCell (p := ⟨w.heap.size + 1, 1, none⟩) (Nat.le_succ _) _
  | false =>
    have hd : fcD S = 0 := by unfold fcD; rw [hok]; rfl
    have hA : fcA S = [] := by unfold fcA; rw [hok]; rfl
    rw [HD _ hok] at HOK
    have HE := hid (And.intro hd hA)
    have HK2 := hid hok
    clear HD hok hd hA
    generalize hdd : S.getD 0 0 = d at *
    obtain ⟨ao, cap, rfl⟩ := HO.out.shape
    go_wp2_with fail
    refine HOK.out.mono ?_
    rintro e w2 ⟨rfl, hb2⟩
    have HR2 := hid ((HR.out.alloc (.cells #[.int .i64 d, .slice ao (acTo S 63).length cap] 28)).below hb2 (by simp; have := HR.out.lt; omega))
    have HB2 := hid ((HB.out.alloc (by omega) (.cells #[.int .i64 d, .slice ao (acTo S 63).length cap] 28)).trans (hb2.mono (by simp; omega)))
    have s0 := HR2.out.cell (i := 0) rfl
    have s1 := HR2.out.cell (i := 1) rfl
    have f0 := HR2.out.free 0
    have f1 := HR2.out.free 1
    clear hb2 q1 q2
    go_wp2_with fail
    refine bodyPost_ret (v := .tuple #[.agg #[.int .i64 0, .slice none 0 0], .bool false]) (by simp [results, Tryd.results13, go_sem, s0, s1]) rfl ⟨.agg #[.int .i64 0, .slice none 0 0], by rw [HK2.out], ?_, ?_⟩
    · rw [HE.out.1, HE.out.2]
      exact bown_zero _ _ (by have := HB2.out.size; simpa using this)
    · exact (HB2.out.setCell (p := ⟨w.heap.size + 1, 0, none⟩) (Nat.le_succ _) _).setCell (p := ⟨w.heap.size + 1, 1, none⟩) (Nat.le_succ _) _
end Go.Proofs.YtcodmkampihphaaDoor
