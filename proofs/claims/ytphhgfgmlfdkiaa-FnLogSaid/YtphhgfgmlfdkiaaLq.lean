/- A statement within a round of a range over a function whose order of evaluation is open: 'texts, end = append(texts, s), p.behind'. -/
import Derived.Test.YtphhgfgmlfdkiaaIt
import Derived.Test.YtphhgfgmlfdkiaaRi
import Derived.Test.YtphhgfgmlfdkiaaCp
import Derived.OrdersIn
import Derived.Maps.AppendAt
namespace Go.Proofs.Ytphhgfgmlfdkiaa
open Go.RowKit Go.Shelf
set_option linter.unusedVariables false

/-- The law: an invariant of the listed operations, kept by each operation that may come up. -/
theorem wpAnyIn_inv {F : Fence} {n : Nat} {P : Program} {ops : Array Oper} {Q : Exit → Act → World → Prop} {md : Region.Mode} (Inv : Array Bool → Act → World → Prop) (hpre : ∀ (j : Nat) (o : Oper), ops[j]? = some o → ∀ e ∈ o.after, Region.binds md e = true → e.on < j)
    (hstep : ∀ (listed : Array Bool) (a : Act) (w : World) (i : Nat) (o : Oper), listed.size = ops.size → Inv listed a w → ops[i]? = some o → (∀ e ∈ o.after, Region.binds md e = true → listed.getD e.on false = true) → listed.getD i true = false → (∀ (j : Nat) (oj : Oper), ops[j]? = some oj → listed.getD j false = true → ∀ e ∈ oj.after, Region.binds md e = true → listed.getD e.on false = true) → wpOpIn F n P ops Q i (fun a' w' => Inv (listed.setIfInBounds i true) a' w') a w)
    (hend : ∀ (listed : Array Bool) (a : Act) (w : World), (∀ j, j < ops.size → listed.getD j false = true) → Inv listed a w → Q .normal a w) :
    ∀ fuel listed a w, listed.size = ops.size → listed.toList.count false ≤ fuel → (∀ (j : Nat) (oj : Oper), ops[j]? = some oj → listed.getD j false = true → ∀ e ∈ oj.after, Region.binds md e = true → listed.getD e.on false = true) → Inv listed a w → wpAnyIn F n P md ops Q fuel listed a w := by
  intro fuel
  induction fuel with
  | zero =>
    intro listed a w hsz hc hcl hi
    have hnil : Region.ready md ops listed = [] := by
      cases hr : Region.ready md ops listed with
      | nil => rfl
      | cons x xs =>
        have hx : x ∈ Region.ready md ops listed := by rw [hr]; simp
        obtain ⟨h1, o, ho, _⟩ := mem_ready.1 hx
        have hxs : x < listed.size := by rw [hsz]; exact (Array.getElem?_eq_some_iff.1 ho).1
        have h2 : listed.toList[x]? = some false := by
          simp [Array.getD, hxs] at h1
          simp [hxs, h1]
        have := count_set listed.toList x h2
        omega
    exact ⟨hnil, hend listed a w (fun j hj => ready_nil_all hsz hpre hnil (j + 1) j (by omega) hj) hi⟩
  | succ fuel ih =>
    intro listed a w hsz hc hcl hi
    refine ⟨fun hnil => hend listed a w (fun j hj => ready_nil_all hsz hpre hnil (j + 1) j (by omega) hj) hi, fun i hr => ?_⟩
    obtain ⟨h1, o, ho, hall⟩ := mem_ready.1 hr
    have hxs : i < listed.size := by rw [hsz]; exact (Array.getElem?_eq_some_iff.1 ho).1
    have h2 : listed.toList[i]? = some false := by
      simp [Array.getD, hxs] at h1
      simp [hxs, h1]
    have hcs := count_set listed.toList i h2
    have hmon : ∀ k : Nat, listed.getD k false = true → (listed.setIfInBounds i true).getD k false = true := fun k hk => by
      by_cases e : k = i
      · subst e
        simp [Array.getD, hxs]
      · rw [getD_set_ne false (fun h => e h.symm)]
        exact hk
    refine wpOpIn_mono (fun a' w' h => ih _ a' w' (by simpa using hsz) ?_ ?_ h) (hstep listed a w i o hsz hi ho hall h1 hcl)
    · rw [Array.toList_setIfInBounds]
      omega
    · intro j oj hoj hl e he hb
      by_cases ej : j = i
      · subst ej
        rw [ho] at hoj
        cases hoj
        exact hmon _ (hall e he hb)
      · rw [getD_set_ne false (fun h => ej h.symm)] at hl
        exact hmon _ (hcl j oj hoj hl e he hb)


/-- An operation that is no defer statement, in a round at the wide fence, is what it is elsewhere. -/
theorem opIn_of_wp {l n : Nat} {P : Program} {o : Oper} {a : Act} {w : World} {K : Act → World → Prop} {Q : Exit → Act → World → Prop} (hd : ∀ c, o.op ≠ .defer c) (h : Oper.wp P o a w K Q) : Oper.wpIn (Fence.wide.inRound l) n P o a w K Q := by
  unfold Oper.wpIn
  refine ⟨fun _ _ => trivial, ?_⟩
  rw [Oper.semAt_plain _ _ _ hd]
  unfold Oper.wp at h
  revert h
  cases (execOp a.eval o).run P w with
  | ok nx w' =>
    cases nx with
    | value v => exact fun h => h
    | skip => exact fun h => h
    | defer d => exact fun h => h
    | enter f args => exact fun h => ⟨fun hh => absurd hh (by simp [Fence.wide]), CallsIn.inRound l (callsIn_wide.2 h)⟩
    | row r args => exact fun h => ⟨fun hh => absurd hh (by simp [Fence.wide]), fun c cs _ => let ⟨v, w', hr, hs⟩ := h c cs; ⟨v, w', hr, stepsIn_wide.2 hs⟩⟩
    | _ => exact fun h => h.elim
  | halt hh w' =>
    cases hh with
    | panic v => exact fun h => h
    | _ => exact fun h => h.elim
theorem opIn_step {l n : Nat} {P : Program} {ops : Array Oper} {Q : Exit → Act → World → Prop} {i : Nat} {o : Oper} {K : Act → World → Prop} {a : Act} {w : World} (ho : ops[i]? = some o) (hd : ∀ c, o.op ≠ .defer c)
    (h : ∀ K' : Act → World → Prop, (∀ a w, K a w → K' a w) → if Region.wanted o (yielded ops a.tmps) = true then Oper.wp P o a w K' Q else K' (a.put o.dst undef) w) : wpOpIn (Fence.wide.inRound l) n P ops Q i K a w := by
  have := h K (fun _ _ h => h)
  unfold wpOpIn
  rw [ho]
  simp only
  split
  · rename_i hw
    rw [if_pos hw] at this
    exact opIn_of_wp hd this
  · rename_i hw
    rw [if_neg hw] at this
    exact ⟨fun _ _ => trivial, this⟩

theorem Blk.keptG {w w' : World} {row : Option Nat} {b : Nat} {l : List Value} {t : TypeId} (h : Blk w b l t) (hg : w.grownBy w' row) (hne : some b ≠ row) : Blk w' b l t := (hg.block b h.lt hne).trans h
theorem Blk.not_row {w : World} {b base e sz n : Nat} {l cs : List Value} {t : TypeId} {v : Value} (h : Blk w b l t) (ho : OwG w base e sz v n cs) (hte : t ≠ e) : some b ≠ v.ownBlock := by
  intro hb
  rcases ho.2.2 with ⟨rfl, _⟩ | ⟨g, cap, cur, rfl, _, hg, _⟩
  · simp [Value.ownBlock] at hb
  · obtain rfl : b = g := by simpa [Value.ownBlock] using hb
    unfold Blk at h
    rw [h] at hg
    cases hg
    exact hte rfl
theorem OwG.keptR {w w' : World} {base e sz n : Nat} {v : Value} {cs : List Value} {row : Option Nat} (h : OwG w base e sz v n cs) (hg : w.grownBy w' row) (hne : v.ownBlock ≠ row ∨ row = none) : OwG w' base e sz v n cs := by
  refine ⟨Nat.le_trans h.1 hg.size, h.2.1, ?_⟩
  rcases h.2.2 with h0 | ⟨g, cap, cur, rfl, h1, h2, h3⟩
  · exact .inl h0
  · have h4 := (hg.block g (Array.getElem?_eq_some_iff.1 h2).1 (by
      rcases hne with hne | rfl
      · intro e'
        exact hne (by simpa [Value.ownBlock] using e')
      · simp)).trans h2
    exact .inr ⟨g, cap, cur, rfl, h1, h4, h3⟩

/-- Where the row of the texts lies: at its first place, or behind the loop's beginning. -/
def LocT (n0 B0 : Nat) (v : Value) : Prop := ∃ g, v.ownBlock = some g ∧ (g = n0 + 1 ∨ B0 ≤ g)
/-- What a round keeps, with the box of the loop's variable. -/
def Gw (n0 B0 b Bs Bx : Nat) (pv : List Value) (W wq : World) : Prop := Blk wq Bx pv 82 ∧ Below n0 W wq ∧ KeepsFrom B0 W wq ∧ Kbb b Bs W wq ∧ W.heap.size ≤ wq.heap.size
theorem Gw.grow {n0 B0 b Bs Bx : Nat} {pv : List Value} {W wq wz : World} {row : Option Nat} (h : Gw n0 B0 b Bs Bx pv W wq) (hn : n0 ≤ W.heap.size) (hbs : b < W.heap.size ∧ Bs < W.heap.size) (hg : wq.grownBy wz row) (hr : ∀ g, row = some g → n0 ≤ g ∧ g ≠ Bx ∧ g ≠ b ∧ g ≠ Bs ∧ ∃ cur t m, wq.heap[g]? = some (.cells cur t m)) : Gw n0 B0 b Bs Bx pv W wz := by
  obtain ⟨h1, h2, h3, h4, h5⟩ := h
  refine ⟨h1.keptG hg (fun e => (hr Bx e.symm).2.1 rfl), h2.grown hg (by omega) (fun k e => (hr k e).1), ⟨Nat.le_trans h5 hg.size, fun k o hk hko ho => ?_⟩, ⟨?_, ?_⟩, Nat.le_trans h5 hg.size⟩
  · have hx := h3.same k o hk hko ho
    refine (hg.block k (Array.getElem?_eq_some_iff.1 hx).1 (fun e => ?_)).trans hx
    obtain ⟨_, _, _, _, cur, t, m, hc⟩ := hr k e.symm
    rw [hx] at hc
    cases hc
    cases ho
  · exact (hg.block b (by omega) (fun e => (hr b e.symm).2.2.1 rfl)).trans h4.1
  · exact (hg.block Bs (by omega) (fun e => (hr Bs e.symm).2.2.2.1 rfl)).trans h4.2

/-- What stands in memory while the statement is done. -/
def Xs (n0 B0 bT bE M : Nat) (v : Value) (k : Nat) (cs : List Value) (s : ByteArray) (e0 beh : Int) (l2 l3 l6 l7 : Bool) (u29 u30 : Value) (wq : World) : Prop :=
  Blk wq bE [.int .i64 (if l7 = true then beh else e0)] 3 ∧ Blk wq bT [if l6 = true then u30 else v] 24 ∧ M ≤ wq.heap.size ∧
  (l3 = true → OwG wq (n0 + 1) 9 1 u30 (k + 1) (cs ++ [.string s]) ∧ LocT n0 B0 u30) ∧
  (l3 = false → OwG wq (n0 + 1) 9 1 v k cs ∧ LocT n0 B0 v ∧ (l2 = true → ∃ g, u29 = .slice (some ⟨g, 0, none⟩) 1 1 ∧ wq.cell? ⟨g, 0, none⟩ = some (.string s)))

theorem eight {A : Array Bool} (h : A.size = 8) : ∃ b0 b1 b2 b3 b4 b5 b6 b7, A = #[b0, b1, b2, b3, b4, b5, b6, b7] := by
  obtain ⟨l⟩ := A
  match l, h with
  | [b0, b1, b2, b3, b4, b5, b6, b7], _ => exact ⟨b0, b1, b2, b3, b4, b5, b6, b7, rfl⟩


set_option maxRecDepth 100000 in
set_option maxHeartbeats 3200000 in
theorem push_region (zp : String) (l m n0 B0 b Bs Bx bT bE : Nat) (t0 t1 t2 t3 t8 t9 t10 t11 t12 t13 t14 t15 t16 t17 t18 t19 t20 t21 t22 t23 t24 t25 t26 : Value) (v : Value) (k : Nat) (cs : List Value) (s : ByteArray) (e0 beh qq : Int) (pp : Value) (Q : Exit → Act → World → Prop) (W : World)
    (hbT : bT = n0 + 2) (hbE : bE = n0 + 3) (hB0 : B0 ≤ W.heap.size) (hb : n0 + 3 < b ∧ b < B0) (hBs : n0 + 3 < Bs ∧ Bs < B0) (hBx : B0 ≤ Bx) (hk : k ≤ 1500)
    (XP : Blk W Bx [.int .i64 qq, pp, .int .i64 beh] 82) (XT : Blk W bT [v] 24) (XE : Blk W bE [.int .i64 e0] 3) (OV : OwG W (n0 + 1) 9 1 v k cs) (LV : LocT n0 B0 v)
    (hQ : ∀ a' wq v', Gw n0 B0 b Bs Bx [.int .i64 qq, pp, .int .i64 beh] W wq → Blk wq bT [v'] 24 → Blk wq bE [.int .i64 beh] 3 → OwG wq (n0 + 1) 9 1 v' (k + 1) (cs ++ [.string s]) → LocT n0 B0 v' → Q .normal a' wq) :
    (Code.region 8 #[{ dst := some 27, op := Op.load 24 (Operand.tmp 4), type := 24, pos := zp, after := #[], guard := none }, { dst := some 28, op := Op.move (Operand.tmp 7), type := 9, pos := zp, after := #[], guard := none }, { dst := some 29, op := Op.buildSlice 24 1 #[(0, Operand.tmp 28)], type := 24, pos := zp, after := #[{ on := 1, ground := Ground.data }], guard := none }, { dst := some 30, op := Op.call { callee := Callee.builtin Builtin.append, args := #[Operand.tmp 27, Operand.tmp 29], argTypes := #[24, 24] }, type := 24, pos := zp, after := #[{ on := 0, ground := Ground.data }, { on := 2, ground := Ground.data }], guard := none }, { dst := some 31, op := Op.fieldAddr 82 (Operand.tmp 6) 2, type := 0, pos := zp, after := #[{ on := 6, ground := Ground.gcOnly Departure.lateStores }], guard := none }, { dst := some 32, op := Op.load 3 (Operand.tmp 31), type := 3, pos := zp, after := #[{ on := 4, ground := Ground.data }, { on := 6, ground := Ground.gcOnly Departure.lateStores }], guard := none }, { dst := none, op := Op.store 24 (Operand.tmp 4) (Operand.tmp 30), type := 0, pos := zp, after := #[{ on := 3, ground := Ground.data }, { on := 3, ground := Ground.chain }, { on := 0, ground := Ground.phase }, { on := 1, ground := Ground.phase }, { on := 2, ground := Ground.phase }, { on := 3, ground := Ground.phase }, { on := 4, ground := Ground.textOnly Departure.lateStores }, { on := 5, ground := Ground.textOnly Departure.lateStores }], guard := none }, { dst := none, op := Op.store 3 (Operand.tmp 5) (Operand.tmp 32), type := 0, pos := zp, after := #[{ on := 5, ground := Ground.data }, { on := 6, ground := Ground.chain }, { on := 0, ground := Ground.phase }, { on := 1, ground := Ground.phase }, { on := 2, ground := Ground.phase }, { on := 3, ground := Ground.phase }, { on := 4, ground := Ground.phase }, { on := 5, ground := Ground.phase }, { on := 6, ground := Ground.phase }], guard := none }] true).wpIn (Fence.wide.inRound l) m Try.prog Q { tmps := #[t0, t1, t2, t3, .pointer (some ⟨bT, 0, none⟩), .pointer (some ⟨bE, 0, none⟩), .pointer (some ⟨Bx, 0, none⟩), .string s, t8, t9, t10, t11, t12, t13, t14, t15, t16, t17, t18, t19, t20, t21, t22, t23, t24, t25, t26, undef, undef, undef, undef, undef, undef, undef, undef], defers := [] } W := by
  have HQ := hid hQ
  replace hbT := hid hbT
  replace hbE := hid hbE
  clear hQ
  refine wpIn_region_any (by kernel_rfl) ?_
  refine wpAnyIn_inv (fun listed ac wq => ∃ u27 u28 u29 u30 u31 u32, ac = { tmps := #[t0, t1, t2, t3, .pointer (some ⟨bT, 0, none⟩), .pointer (some ⟨bE, 0, none⟩), .pointer (some ⟨Bx, 0, none⟩), .string s, t8, t9, t10, t11, t12, t13, t14, t15, t16, t17, t18, t19, t20, t21, t22, t23, t24, t25, t26, u27, u28, u29, u30, u31, u32, undef, undef], defers := [] } ∧ (listed.getD 0 false = true → u27 = v) ∧ (listed.getD 1 false = true → u28 = .string s) ∧ (listed.getD 4 false = true → u31 = .pointer (some ⟨Bx, 2, none⟩)) ∧ (listed.getD 5 false = true → u32 = .int .i64 beh) ∧ Gw n0 B0 b Bs Bx [.int .i64 qq, pp, .int .i64 beh] W wq ∧ Xs n0 B0 bT bE W.heap.size v k cs s e0 beh (listed.getD 2 false) (listed.getD 3 false) (listed.getD 6 false) (listed.getD 7 false) u29 u30 wq) ?hpre ?hstep ?hend _ _ _ _ rfl (Nat.le_refl 8) (fun j oj _ hl => absurd hl (by simp [Array.getD])) ?start
  case hpre => exact pre_of (by kernel_rfl)
  case start =>
    refine ⟨undef, undef, undef, undef, undef, undef, rfl, ?_, ?_, ?_, ?_, ?_, ?_⟩
    · intro h; exact absurd (show false = true from h) Bool.false_ne_true
    · intro h; exact absurd (show false = true from h) Bool.false_ne_true
    · intro h; exact absurd (show false = true from h) Bool.false_ne_true
    · intro h; exact absurd (show false = true from h) Bool.false_ne_true
    · exact ⟨XP, (Below.refl _ _).drew, ⟨Nat.le_refl _, fun _ _ _ h _ => h⟩, ⟨rfl, rfl⟩, Nat.le_refl _⟩
    · exact ⟨XE, XT, Nat.le_refl _, fun h => absurd (show false = true from h) Bool.false_ne_true, fun _ => ⟨OV, LV, fun h => absurd (show false = true from h) Bool.false_ne_true⟩⟩
  case hend =>
    rintro listed ac wq hall ⟨u27, u28, u29, u30, u31, u32, rfl, f0, f1, f4, f5, hG, hX⟩
    rw [hall 2 (show 2 < 8 by decide), hall 3 (show 3 < 8 by decide), hall 6 (show 6 < 8 by decide), hall 7 (show 7 < 8 by decide)] at hX
    obtain ⟨x1, x2, x3, x4, x5⟩ := hX
    exact HQ.out _ _ u30 hG x2 x1 (x4 rfl).1 (x4 rfl).2
  case hstep =>
    rintro listed ac wq i o hsz ⟨u27, u28, u29, u30, u31, u32, rfl, f0, f1, f4, f5, hG, hX⟩ ho hall hun hcl
    obtain ⟨b0, b1, b2, b3, b4, b5, b6, b7, rfl⟩ := eight hsz
    have hin : i < 8 := (Array.getElem?_eq_some_iff.1 ho).1
    have qx : wq.cell? ⟨Bx, 2, none⟩ = some (.int .i64 beh) := hG.1.cell (i := 2) rfl
    have hn0 : n0 ≤ W.heap.size := by omega
    have hbW : b < W.heap.size ∧ Bs < W.heap.size := by omega
    obtain ⟨x1, x2, x3, x4, x5⟩ := hX
    have k6 : b6 = true → b0 = true ∧ b3 = true := fun h => ⟨hcl 6 _ rfl h ⟨0, .phase⟩ (by simp) rfl, hcl 6 _ rfl h ⟨3, .data⟩ (by simp) rfl⟩
    have k3 : b3 = true → b2 = true := fun h => hcl 3 _ rfl h ⟨2, .data⟩ (by simp) rfl
    have k7 : b7 = true → b6 = true := fun h => hcl 7 _ rfl h ⟨6, .chain⟩ (by simp) rfl
    obtain rfl | rfl | rfl | rfl | rfl | rfl | rfl | rfl : i = 0 ∨ i = 1 ∨ i = 2 ∨ i = 3 ∨ i = 4 ∨ i = 5 ∨ i = 6 ∨ i = 7 := by omega
    · cases ho
      obtain rfl : b0 = false := hun
      obtain rfl : b6 = false := by cases b6 with
        | false => rfl
        | true => exact absurd (k6 rfl).1 Bool.false_ne_true
      have q0 : wq.cell? ⟨bT, 0, none⟩ = some v := x2.cell (i := 0) rfl
      obtain ⟨va, vc, rfl, _, _⟩ : ∃ ao c, v = .slice ao k c ∧ True ∧ True := by
        cases b3 with
        | true => exact absurd (show false = true from hcl 3 _ rfl rfl ⟨0, .data⟩ (by simp) rfl) Bool.false_ne_true
        | false =>
          obtain ⟨ao, c, e, _, _⟩ := (x5 rfl).1.shape
          exact ⟨ao, c, e, trivial, trivial⟩
      refine opIn_step rfl (fun c h => by cases h) (fun K hK => ?_)
      go_simp
      exact hK _ _ ⟨.slice va k vc, u28, u29, u30, u31, u32, rfl, fun _ => rfl, f1, f4, f5, hG, x1, x2, x3, x4, x5⟩
    · cases ho
      obtain rfl : b1 = false := hun
      refine opIn_step rfl (fun c h => by cases h) (fun K hK => ?_)
      go_simp
      exact hK _ _ ⟨u27, .string s, u29, u30, u31, u32, rfl, f0, fun _ => rfl, f4, f5, hG, x1, x2, x3, x4, x5⟩
    · cases ho
      obtain rfl : b2 = false := hun
      obtain rfl : b3 = false := by cases b3 with
        | false => rfl
        | true => exact absurd (k3 rfl) Bool.false_ne_true
      obtain rfl : u28 = .string s := f1 (hall ⟨1, .data⟩ (by simp) rfl)
      refine opIn_step rfl (fun c h => by cases h) (fun K hK => ?_)
      go_simp
      have hgr := World.grownBy_alloc wq (.cells #[.string s] 9) none
      have c9 : (wq.alloc (.cells #[.string s] 9)).cell? ⟨wq.heap.size, 0, none⟩ = some (.string s) := cell_one_new wq (.string s) 9 0 _ rfl
      refine hK _ _ ⟨u27, .string s, .slice (some ⟨wq.heap.size, 0, none⟩) 1 1, u30, u31, u32, rfl, f0, fun _ => rfl, f4, f5, hG.grow hn0 hbW hgr (fun g h => by cases h), x1.keptG hgr (by simp), x2.keptG hgr (by simp), Nat.le_trans x3 hgr.size, fun h => absurd (show false = true from h) Bool.false_ne_true, fun _ => ⟨(x5 rfl).1.keptR hgr (.inr rfl), (x5 rfl).2.1, fun _ => ⟨_, rfl, c9⟩⟩⟩
    · cases ho
      obtain rfl : b3 = false := hun
      obtain rfl : b6 = false := by cases b6 with
        | false => rfl
        | true => exact absurd (k6 rfl).2 Bool.false_ne_true
      obtain rfl : b7 = false := by cases b7 with
        | false => rfl
        | true => exact absurd (k7 rfl) Bool.false_ne_true
      obtain rfl : v = u27 := (f0 (hall ⟨0, .data⟩ (by simp) rfl)).symm
      obtain ⟨o1, o2, o3⟩ := x5 rfl
      have hb2 : b2 = true := hall ⟨2, .data⟩ (by simp) rfl
      subst hb2
      obtain ⟨g, rfl, hcg⟩ := o3 rfl
      obtain ⟨i0, hi, hz0, hz1, hz2⟩ := info_parts (show (Try.prog.info? 9).map (fun i => (i.zero, i.size, i.bytes)) = some (some (.string ⟨#[]⟩), 1, 16) by kernel_rfl)
      obtain ⟨v', w1, hrun, r1, r2, _, r5⟩ := run_append_own_at (P := Try.prog) wq (n0 + 1) 24 24 9 i0 _ 1 16 Try.underlying24 hi hz0 hz1 hz2 rfl (by decide) v k cs o1.2 ⟨g, 0, none⟩ 1 1 [.string s] rfl (by
        intro j u hj
        match j, hj with
        | 0, hj => simp at hj; subst hj; simpa [Addr.add] using hcg) (by simp [Value.oneCell']) (by unfold maxLen; omega) (by omega) o1.1
      have hrow : ∀ y, v.ownBlock = some y → n0 ≤ y ∧ y ≠ Bx ∧ y ≠ b ∧ y ≠ Bs ∧ ∃ cur t m, wq.heap[y]? = some (.cells cur t m) := by
        intro y hy
        obtain ⟨g2, e2, hg2⟩ := o2
        rw [hy] at e2
        cases e2
        have hne := hG.1.not_row o1 (by decide)
        rw [hy] at hne
        refine ⟨by omega, fun e => hne (by rw [e]), by omega, by omega, ?_⟩
        rcases o1.2.2 with ⟨rfl, _⟩ | ⟨g3, cap, cur, rfl, _, h3, _⟩
        · simp [Value.ownBlock] at hy
        · obtain rfl : g3 = y := by simpa [Value.ownBlock] using hy
          exact ⟨_, _, _, h3⟩
      have hl' : LocT n0 B0 v' := by
        rcases r5 with e | e
        · obtain ⟨g2, e2, hg2⟩ := o2
          exact ⟨g2, e.trans e2, hg2⟩
        · exact ⟨_, e, .inr (by omega)⟩
      refine opIn_step rfl (fun c h => by cases h) (fun K hK => ?_)
      rw [if_pos (by rfl)]
      refine wp_app_run _ _ 24 rfl v (.slice (some ⟨g, 0, none⟩) 1 1) rfl rfl v' w1 hrun ?_
      refine hK _ _ ⟨v, u28, .slice (some ⟨g, 0, none⟩) 1 1, v', u31, u32, rfl, fun _ => rfl, f1, f4, f5, hG.grow hn0 hbW r2 hrow, x1.keptG r2 (x1.not_row o1 (by decide)), x2.keptG r2 (x2.not_row o1 (by decide)), Nat.le_trans x3 r2.size, fun _ => ⟨⟨Nat.le_trans o1.1 r2.size, r1⟩, hl'⟩, fun h => absurd (show true = false from h) (by decide)⟩
    · cases ho
      obtain rfl : b4 = false := hun
      refine opIn_step rfl (fun c h => by cases h) (fun K hK => ?_)
      go_simp
      exact hK _ _ ⟨u27, u28, u29, u30, .pointer (some ⟨Bx, 2, none⟩), u32, rfl, f0, f1, fun _ => rfl, f5, hG, x1, x2, x3, x4, x5⟩
    · cases ho
      obtain rfl : b5 = false := hun
      obtain rfl : u31 = .pointer (some ⟨Bx, 2, none⟩) := f4 (hall ⟨4, .data⟩ (by simp) rfl)
      refine opIn_step rfl (fun c h => by cases h) (fun K hK => ?_)
      go_simp
      exact hK _ _ ⟨u27, u28, u29, u30, .pointer (some ⟨Bx, 2, none⟩), .int .i64 beh, rfl, f0, f1, fun _ => rfl, fun _ => rfl, hG, x1, x2, x3, x4, x5⟩
    · cases ho
      obtain rfl : b6 = false := hun
      obtain rfl : b7 = false := by cases b7 with
        | false => rfl
        | true => exact absurd (k7 rfl) Bool.false_ne_true
      have hb3 : b3 = true := hall ⟨3, .data⟩ (by simp) rfl
      subst hb3
      obtain ⟨o1, o2⟩ := x4 rfl
      obtain ⟨va, vc, rfl, _, _⟩ := o1.shape
      have q0 : wq.cell? ⟨bT, 0, none⟩ = some v := x2.cell (i := 0) rfl
      have fr0 := x2.free 0
      have hgr := grownBy_setCell' wq bT (.slice va (k + 1) vc)
      have hnr := x2.not_row o1 (by decide)
      refine opIn_step rfl (fun c h => by cases h) (fun K hK => ?_)
      go_simp
      refine hK _ _ ⟨u27, u28, u29, .slice va (k + 1) vc, u31, u32, rfl, f0, f1, f4, f5, hG.grow hn0 hbW hgr (fun y hy => by cases hy; exact ⟨by have := hbT.out; omega, by have := hbT.out; omega, by have := hbT.out; omega, by have := hbT.out; omega, _, _, _, x2⟩), x1.keptG hgr (by have := hbT.out; have := hbE.out; simp; omega), ?_, Nat.le_trans x3 hgr.size, fun _ => ⟨o1.keptR hgr (.inl (fun e => hnr e.symm)), o2⟩, fun h => absurd (show true = false from h) (by decide)⟩
      exact x2.set 0 _
    · cases ho
      obtain rfl : b7 = false := hun
      have hb6 : b6 = true := hall ⟨6, .chain⟩ (by simp) rfl
      subst hb6
      have hb3 : b3 = true := (k6 rfl).2
      subst hb3
      obtain rfl : u32 = .int .i64 beh := f5 (hall ⟨5, .data⟩ (by simp) rfl)
      obtain ⟨o1, o2⟩ := x4 rfl
      have q0 : wq.cell? ⟨bE, 0, none⟩ = some (.int .i64 e0) := x1.cell (i := 0) rfl
      have fr0 := x1.free 0
      have hgr := grownBy_setCell' wq bE (.int .i64 beh)
      have hnr := x1.not_row o1 (by decide)
      replace f0 := hid f0
      replace f1 := hid f1
      replace f4 := hid f4
      clear k6 k3 k7
      refine opIn_step rfl (fun c h => by cases h) (fun K hK => ?_)
      go_simp
      refine hK _ _ ⟨u27, u28, u29, u30, u31, .int .i64 beh, rfl, f0.out, f1.out, f4.out, fun _ => rfl, hG.grow hn0 hbW hgr (fun y hy => by cases hy; exact ⟨by have := hbE.out; omega, by have := hbE.out; omega, by have := hbE.out; omega, by have := hbE.out; omega, _, _, _, x1⟩), ?_, x2.keptG hgr (by have := hbT.out; have := hbE.out; simp; omega), Nat.le_trans x3 hgr.size, fun _ => ⟨o1.keptR hgr (.inl (fun e => hnr e.symm)), o2⟩, fun h => absurd (show true = false from h) (by decide)⟩
      exact x1.set 0 _
end Go.Proofs.Ytphhgfgmlfdkiaa
