/- The contract of LogParts of the specification. -/
import Derived.Test.YtphhgfgmlfdkiaaQb
import Derived.Test.YtphhgfgmlfdkiaaQf
import Derived.Test.YtphhgfgmlfdkiaaSt
import Derived.Test.YtphhgfgmlfdkiaaOk
import Derived.Test.YtphhgfgmlfdkiaaBs
namespace Go.Proofs.Ytphhgfgmlfdkiaa
open Go.RowKit
set_option linter.unusedVariables false

theorem Blk.rw {w : World} {b : Nat} {l : List Value} {t : TypeId} (h : Blk w b l t) : Rw w (some ⟨b, 0, none⟩) l := fun j v hj => ⟨b, 0, rfl, by rw [Nat.zero_add]; exact h.cell hj⟩

theorem partsTo_succ (q : Int) (s : ByteArray) (k : Nat) : encS (partsTo q s (k + 1)) = encS (partsTo q s k) ++ [.string (partB q s k)] := by
  simp [partsTo, encS, List.range_succ]

set_option maxRecDepth 100000 in
set_option maxHeartbeats 3200000 in
theorem spec_parts (q : Int) (s : ByteArray) (w : World) (hs : s.size ≤ 1048576) :
    Calls Try.prog 21 #[.int .i64 q, .string s] w fun e w' => ∃ v, e = .returned v ∧ OwG w' w.heap.size 9 1 v (partsP q s).length (encS (partsP q s)) ∧ Below w.heap.size w w' := by
  have HIN := hid (fun x a b (q : World) => spec_in x a b q)
  have HE := hid (OwG.empty w w.heap.size 9 1 (Nat.le_refl _))
  have HBE := hid ((Below.refl w.heap.size w).alloc (Nat.le_refl _) (.cells #[] 9))
  by_cases hok : 1 ≤ q ∧ q ≤ 1000000000 ∧ s.size ≤ 60000
  · have hp : partsP q s = partsTo q s (parts s) := by simp [partsP, partOk, hok]
    rw [hp]
    obtain ⟨h1, h2, h3⟩ := hok
    have d1 : decide (1 ≤ q ∧ q ≤ 1000000000) = true := by simp; omega
    have d3 : ¬ (60000 : Int) < (s.size : Int) := by omega
    have hn : parts s ≤ 600 := by unfold parts; omega
    have HK := hid (show ∀ k, k < parts s → k * 116 ≤ s.size from fun k hk => by unfold parts at hk; omega)
    have HPW := hid (fun x (wz : World) (h0 : 0 ≤ x) (h1 : x ≤ 4294967295) => spec_putWord x wz h0 h1)
    have HPB := hid (show ∀ k, partB q s k = strOfNums (wordBytes q) ++ strOfNums (wordBytes k) ++ strOfNums (wordBytes (parts s)) ++ s.extract (k * 116) (min ((k + 1) * 116) s.size) from fun k => rfl)

    by_cases hz : s.size = 0
    · have hdn : (((s.size : Int) + 116 - 1) / 116 == 0) = true := by rw [hz]; rfl
      have hN : parts s = 1 := by unfold parts; omega
      rw [hN] at HK HPB ⊢
      replace HPB : Hid (∀ k : Nat, partB q s k = strOfNums (wordBytes q) ++ strOfNums (wordBytes k) ++ strOfNums (wordBytes 1) ++ s.extract (k * 116) (min ((k + 1) * 116) s.size)) := hid (fun k => HPB.out k)
      replace hz := hid hz
      go_enter Try.func21, Try.ntmps21
      go_wp2_with (go_at_call 55; refine (HIN.out _ _ _ _).mono ?_; rw [d1]; rintro e w1 ⟨rfl, rfl⟩)
      generalize hw0 : w.alloc (.cells #[] 9) = w0 at *
      clear hw0 hdn hN
      go_loopw [5, 7] (fun v i wr => ∃ (k : Nat), k ≤ 1 ∧ i = .int .i64 k ∧ Hid (OwG wr w.heap.size 9 1 v k (encS (partsTo q s k))) ∧ Hid (Below w.heap.size w wr)) (fun _ i _ => 1 - (intOf i).toNat)
      case atStart => exact ⟨0, by omega, rfl, HE.out, HBE.out⟩
      case round =>
        obtain ⟨k, hk, rfl, hown, hb⟩ := hrel
        clear HE HBE
        obtain ⟨ao, cap, rfl, hpc, _⟩ := hown.out.shape
        by_cases hlt : k < 1
        · have hlt' : (k : Int) < (1 : Int) := by omega
          have hkm := HK.out k hlt
          have HPK := HPB.out k
          have w1 : IntKind.u32.wrap q = q := by rw [IntKind.wrap_u32]; omega
          have w2 : IntKind.u32.wrap (k : Int) = (k : Int) := by rw [IntKind.wrap_u32]; omega
          have w3 : IntKind.u32.wrap (1 : Int) = (1 : Int) := by rw [IntKind.wrap_u32]; omega
          have z1 : IntKind.i64.wrap ((k : Int) * 116) = (k : Int) * 116 := by rw [IntKind.wrap_i64]; omega
          have z7 : ((k : Int) * 116).toNat = k * 116 := by omega
          have z9 : (0 : Int) ≤ (k : Int) * 116 := by omega
          by_cases hgt : (s.size : Int) < ((k : Int) + 1) * 116
          ·
            rw [show min ((k + 1) * 116) s.size = s.size by omega] at HPK
            have z8 : ((s.size : Int)).toNat = s.size := by omega
            have za : (0 : Int) ≤ (s.size : Int) := by omega
            have zb : (s.size : Int) ≤ (s.size : Int) := by omega
            have zc : (k : Int) * 116 ≤ (s.size : Int) := by omega
            have z10 : (strOfNums (wordBytes q)).size = 4 ∧ (strOfNums (wordBytes (k : Int))).size = 4 ∧ (strOfNums (wordBytes (1 : Int))).size = 4 := by
              rw [strOfNums_size, strOfNums_size, strOfNums_size]
              exact ⟨rfl, rfl, rfl⟩
            obtain ⟨z10, z11, z12⟩ := z10
            have z13 : ¬ 9223372036854775807 < 4 + 4 + 4 + (min (s.size) s.size - k * 116) := by omega
            have z14 : ¬ 9223372036854775807 < 4 + 4 + 4 + (s.size - k * 116) := by omega
            have zd : (k : Int) ≤ (k : Int) + 1 := by omega
            replace HPK := hid HPK
            clear hkm
            go_wp2_with fail
            refine region_R (by kernel_rfl) ?_
            refine anyR_quiet 0 rfl (by kernel_rfl) (by kernel_rfl) (by kernel_rfl) (fun K hK => ?_)
            go_simp
            refine ⟨_, fun _ _ => rfl, hK _ ?_⟩
            clear hK K
            refine anyR_quiet 1 rfl (by kernel_rfl) (by kernel_rfl) (by kernel_rfl) (fun K hK => ?_)
            go_simp
            refine ⟨_, fun _ _ => rfl, hK _ ?_⟩
            clear hK K
            refine anyR_quiet 2 rfl (by kernel_rfl) (by kernel_rfl) (by kernel_rfl) (fun K hK => ?_)
            go_simp
            refine ⟨_, fun _ _ => rfl, hK _ ?_⟩
            clear hK K
            refine anyR_quiet 3 rfl (by kernel_rfl) (by kernel_rfl) (by kernel_rfl) (fun K hK => ?_)
            go_simp
            apply Exists.intro
            refine ⟨fun wz hwz => ?_, hK _ ?_⟩
            · go_at_call 56
              exact (HPW.out _ wz (by omega) (by omega)).mono (fun _ _ h => ⟨h.1, h.2⟩)
            clear hK K
            refine anyR_quiet 4 rfl (by kernel_rfl) (by kernel_rfl) (by kernel_rfl) (fun K hK => ?_)
            go_simp
            refine ⟨_, fun _ _ => rfl, hK _ ?_⟩
            clear hK K
            refine anyR_quiet 5 rfl (by kernel_rfl) (by kernel_rfl) (by kernel_rfl) (fun K hK => ?_)
            go_simp
            refine ⟨_, fun _ _ => rfl, hK _ ?_⟩
            clear hK K
            refine anyR_quiet 6 rfl (by kernel_rfl) (by kernel_rfl) (by kernel_rfl) (fun K hK => ?_)
            go_simp
            apply Exists.intro
            refine ⟨fun wz hwz => ?_, hK _ ?_⟩
            · go_at_call 56
              exact (HPW.out _ wz (by omega) (by omega)).mono (fun _ _ h => ⟨h.1, h.2⟩)
            clear hK K
            refine anyR_quiet 7 rfl (by kernel_rfl) (by kernel_rfl) (by kernel_rfl) (fun K hK => ?_)
            go_simp
            refine ⟨_, fun _ _ => rfl, hK _ ?_⟩
            clear hK K
            refine anyR_quiet 8 rfl (by kernel_rfl) (by kernel_rfl) (by kernel_rfl) (fun K hK => ?_)
            go_simp
            refine ⟨_, fun _ _ => rfl, hK _ ?_⟩
            clear hK K
            refine anyR_quiet 9 rfl (by kernel_rfl) (by kernel_rfl) (by kernel_rfl) (fun K hK => ?_)
            go_simp
            refine ⟨_, fun _ _ => rfl, hK _ ?_⟩
            clear hK K
            refine anyR_quiet 10 rfl (by kernel_rfl) (by kernel_rfl) (by kernel_rfl) (fun K hK => ?_)
            go_simp
            apply Exists.intro
            refine ⟨fun wz hwz => ?_, hK _ ?_⟩
            · go_at_call 56
              exact (HPW.out _ wz (by omega) (by omega)).mono (fun _ _ h => ⟨h.1, h.2⟩)
            clear hK K
            refine anyR_quiet 11 rfl (by kernel_rfl) (by kernel_rfl) (by kernel_rfl) (fun K hK => ?_)
            go_simp
            refine ⟨_, fun _ _ => rfl, hK _ ?_⟩
            clear hK K
            refine anyR_quiet 12 rfl (by kernel_rfl) (by kernel_rfl) (by kernel_rfl) (fun K hK => ?_)
            go_simp
            refine ⟨_, fun _ _ => rfl, hK _ ?_⟩
            clear hK K
            refine anyR_quiet 13 rfl (by kernel_rfl) (by kernel_rfl) (by kernel_rfl) (fun K hK => ?_)
            go_simp
            refine ⟨_, fun _ _ => rfl, hK _ ?_⟩
            clear hK K
            refine anyR_quiet 14 rfl (by kernel_rfl) (by kernel_rfl) (by kernel_rfl) (fun K hK => ?_)
            go_simp
            refine ⟨_, fun _ _ => rfl, hK _ ?_⟩
            clear hK K
            refine anyR_quiet 15 rfl (by kernel_rfl) (by kernel_rfl) (by kernel_rfl) (fun K hK => ?_)
            go_simp
            refine ⟨_, fun _ _ => rfl, hK _ ?_⟩
            clear hK K
            refine anyR_quiet 16 rfl (by kernel_rfl) (by kernel_rfl) (by kernel_rfl) (fun K hK => ?_)
            go_simp
            refine ⟨_, fun _ _ => rfl, hK _ ?_⟩
            clear hK K
            refine anyR_quiet 17 rfl (by kernel_rfl) (by kernel_rfl) (by kernel_rfl) (fun K hK => ?_)
            go_simp
            refine ⟨_, fun _ _ => rfl, hK _ ?_⟩
            clear hK K
            clear w1 w2 w3 z1 z7 z9 z8 za zb zc z13 z14
            rw [← HPK.out]
            have HOC := hid (show ∀ u ∈ [Value.string (partB q s k)], u.oneCell' = true from fun u hu => by simp at hu; subst hu; rfl)
            generalize hX : partB q s k = X at *
            refine anyR_one 18 rfl (by kernel_rfl) (by kernel_rfl) (fun wa hwa K hK => ?_)
            go_simp
            refine hK _ _ (.inr ((Below.refl _ _).alloc (Nat.le_refl _) _)) ?_
            clear hK K
            have GB := hid (Blk.new wa [.string X] 9)
            have HB1 := hid (hwa.trans ((Below.refl wa.heap.size wa).alloc (Nat.le_refl _) (.cells #[.string X] 9)))
            generalize wa.alloc (.cells #[.string X] 9) = wb at *
            refine anyR_call 19 rfl rfl (by kernel_rfl) (by kernel_rfl) (fun wc hwc K hK => ?_)
            have HO2 := hid (hown.out.below (HB1.out.trans hwc))
            have GB2 := hid (GB.out.below hwc GB.out.lt)
            refine wp_of_list (ops := #[]) rfl (wpList_appG wc rfl (.tmp 40) (.tmp 58) 24 rfl w.heap.size 9 (.string ByteArray.empty) 1 16 Try.underlying24 Try.info9 rfl (by decide) _ k _ rfl HO2.out (some ⟨wa.heap.size, 0, none⟩) 1 1 [.string X] rfl rfl GB2.out.rw (.inr ⟨_, _, rfl⟩) HOC.out (by omega) (by decide) ?_)
            intro v2 w2 ho2 hb2 _
            refine ⟨rfl, hK _ _ (.inl (by kernel_rfl)) ?_⟩
            clear hK K
            have HO3 := hid ho2
            rw [← hX, ← partsTo_succ] at HO3
            have HB3 := hid (((hb.out.trans (Below.mono (HB1.out.trans hwc) hb.out.size)).trans hb2))
            clear ho2 hb2 HO2 GB2 GB
            refine anyR_last 20 rfl (by kernel_rfl) (by kernel_rfl) (fun wd hwd K hK => ?_)
            go_simp
            refine hK _ _ ?_
            clear hK K
            go_wp2_with fail
            go_roundw
            case rel => exact ⟨k + 1, by omega, by go_num, hid (HO3.out.below hwd), hid (HB3.out.trans (Below.mono hwd HB3.out.size))⟩
            case measure => simp [intOf]; omega
          ·
            rw [show min ((k + 1) * 116) s.size = (k + 1) * 116 by omega] at HPK
            have z8 : (((k : Int) + 1) * 116).toNat = (k + 1) * 116 := by omega
            have za : (0 : Int) ≤ ((k : Int) + 1) * 116 := by omega
            have zb : ((k : Int) + 1) * 116 ≤ (s.size : Int) := by omega
            have zc : (k : Int) * 116 ≤ ((k : Int) + 1) * 116 := by omega
            have z10 : (strOfNums (wordBytes q)).size = 4 ∧ (strOfNums (wordBytes (k : Int))).size = 4 ∧ (strOfNums (wordBytes (1 : Int))).size = 4 := by
              rw [strOfNums_size, strOfNums_size, strOfNums_size]
              exact ⟨rfl, rfl, rfl⟩
            obtain ⟨z10, z11, z12⟩ := z10
            have z13 : ¬ 9223372036854775807 < 4 + 4 + 4 + (min ((k + 1) * 116) s.size - k * 116) := by omega
            have z14 : ¬ 9223372036854775807 < 4 + 4 + 4 + ((k + 1) * 116 - k * 116) := by omega
            have zd : (k : Int) ≤ (k : Int) + 1 := by omega
            replace HPK := hid HPK
            clear hkm
            go_wp2_with fail
            refine region_R (by kernel_rfl) ?_
            refine anyR_quiet 0 rfl (by kernel_rfl) (by kernel_rfl) (by kernel_rfl) (fun K hK => ?_)
            go_simp
            refine ⟨_, fun _ _ => rfl, hK _ ?_⟩
            clear hK K
            refine anyR_quiet 1 rfl (by kernel_rfl) (by kernel_rfl) (by kernel_rfl) (fun K hK => ?_)
            go_simp
            refine ⟨_, fun _ _ => rfl, hK _ ?_⟩
            clear hK K
            refine anyR_quiet 2 rfl (by kernel_rfl) (by kernel_rfl) (by kernel_rfl) (fun K hK => ?_)
            go_simp
            refine ⟨_, fun _ _ => rfl, hK _ ?_⟩
            clear hK K
            refine anyR_quiet 3 rfl (by kernel_rfl) (by kernel_rfl) (by kernel_rfl) (fun K hK => ?_)
            go_simp
            apply Exists.intro
            refine ⟨fun wz hwz => ?_, hK _ ?_⟩
            · go_at_call 56
              exact (HPW.out _ wz (by omega) (by omega)).mono (fun _ _ h => ⟨h.1, h.2⟩)
            clear hK K
            refine anyR_quiet 4 rfl (by kernel_rfl) (by kernel_rfl) (by kernel_rfl) (fun K hK => ?_)
            go_simp
            refine ⟨_, fun _ _ => rfl, hK _ ?_⟩
            clear hK K
            refine anyR_quiet 5 rfl (by kernel_rfl) (by kernel_rfl) (by kernel_rfl) (fun K hK => ?_)
            go_simp
            refine ⟨_, fun _ _ => rfl, hK _ ?_⟩
            clear hK K
            refine anyR_quiet 6 rfl (by kernel_rfl) (by kernel_rfl) (by kernel_rfl) (fun K hK => ?_)
            go_simp
            apply Exists.intro
            refine ⟨fun wz hwz => ?_, hK _ ?_⟩
            · go_at_call 56
              exact (HPW.out _ wz (by omega) (by omega)).mono (fun _ _ h => ⟨h.1, h.2⟩)
            clear hK K
            refine anyR_quiet 7 rfl (by kernel_rfl) (by kernel_rfl) (by kernel_rfl) (fun K hK => ?_)
            go_simp
            refine ⟨_, fun _ _ => rfl, hK _ ?_⟩
            clear hK K
            refine anyR_quiet 8 rfl (by kernel_rfl) (by kernel_rfl) (by kernel_rfl) (fun K hK => ?_)
            go_simp
            refine ⟨_, fun _ _ => rfl, hK _ ?_⟩
            clear hK K
            refine anyR_quiet 9 rfl (by kernel_rfl) (by kernel_rfl) (by kernel_rfl) (fun K hK => ?_)
            go_simp
            refine ⟨_, fun _ _ => rfl, hK _ ?_⟩
            clear hK K
            refine anyR_quiet 10 rfl (by kernel_rfl) (by kernel_rfl) (by kernel_rfl) (fun K hK => ?_)
            go_simp
            apply Exists.intro
            refine ⟨fun wz hwz => ?_, hK _ ?_⟩
            · go_at_call 56
              exact (HPW.out _ wz (by omega) (by omega)).mono (fun _ _ h => ⟨h.1, h.2⟩)
            clear hK K
            refine anyR_quiet 11 rfl (by kernel_rfl) (by kernel_rfl) (by kernel_rfl) (fun K hK => ?_)
            go_simp
            refine ⟨_, fun _ _ => rfl, hK _ ?_⟩
            clear hK K
            refine anyR_quiet 12 rfl (by kernel_rfl) (by kernel_rfl) (by kernel_rfl) (fun K hK => ?_)
            go_simp
            refine ⟨_, fun _ _ => rfl, hK _ ?_⟩
            clear hK K
            refine anyR_quiet 13 rfl (by kernel_rfl) (by kernel_rfl) (by kernel_rfl) (fun K hK => ?_)
            go_simp
            refine ⟨_, fun _ _ => rfl, hK _ ?_⟩
            clear hK K
            refine anyR_quiet 14 rfl (by kernel_rfl) (by kernel_rfl) (by kernel_rfl) (fun K hK => ?_)
            go_simp
            refine ⟨_, fun _ _ => rfl, hK _ ?_⟩
            clear hK K
            refine anyR_quiet 15 rfl (by kernel_rfl) (by kernel_rfl) (by kernel_rfl) (fun K hK => ?_)
            go_simp
            refine ⟨_, fun _ _ => rfl, hK _ ?_⟩
            clear hK K
            refine anyR_quiet 16 rfl (by kernel_rfl) (by kernel_rfl) (by kernel_rfl) (fun K hK => ?_)
            go_simp
            refine ⟨_, fun _ _ => rfl, hK _ ?_⟩
            clear hK K
            refine anyR_quiet 17 rfl (by kernel_rfl) (by kernel_rfl) (by kernel_rfl) (fun K hK => ?_)
            go_simp
            refine ⟨_, fun _ _ => rfl, hK _ ?_⟩
            clear hK K
            clear w1 w2 w3 z1 z7 z9 z8 za zb zc z13 z14
            rw [← HPK.out]
            have HOC := hid (show ∀ u ∈ [Value.string (partB q s k)], u.oneCell' = true from fun u hu => by simp at hu; subst hu; rfl)
            generalize hX : partB q s k = X at *
            refine anyR_one 18 rfl (by kernel_rfl) (by kernel_rfl) (fun wa hwa K hK => ?_)
            go_simp
            refine hK _ _ (.inr ((Below.refl _ _).alloc (Nat.le_refl _) _)) ?_
            clear hK K
            have GB := hid (Blk.new wa [.string X] 9)
            have HB1 := hid (hwa.trans ((Below.refl wa.heap.size wa).alloc (Nat.le_refl _) (.cells #[.string X] 9)))
            generalize wa.alloc (.cells #[.string X] 9) = wb at *
            refine anyR_call 19 rfl rfl (by kernel_rfl) (by kernel_rfl) (fun wc hwc K hK => ?_)
            have HO2 := hid (hown.out.below (HB1.out.trans hwc))
            have GB2 := hid (GB.out.below hwc GB.out.lt)
            refine wp_of_list (ops := #[]) rfl (wpList_appG wc rfl (.tmp 40) (.tmp 58) 24 rfl w.heap.size 9 (.string ByteArray.empty) 1 16 Try.underlying24 Try.info9 rfl (by decide) _ k _ rfl HO2.out (some ⟨wa.heap.size, 0, none⟩) 1 1 [.string X] rfl rfl GB2.out.rw (.inr ⟨_, _, rfl⟩) HOC.out (by omega) (by decide) ?_)
            intro v2 w2 ho2 hb2 _
            refine ⟨rfl, hK _ _ (.inl (by kernel_rfl)) ?_⟩
            clear hK K
            have HO3 := hid ho2
            rw [← hX, ← partsTo_succ] at HO3
            have HB3 := hid (((hb.out.trans (Below.mono (HB1.out.trans hwc) hb.out.size)).trans hb2))
            clear ho2 hb2 HO2 GB2 GB
            refine anyR_last 20 rfl (by kernel_rfl) (by kernel_rfl) (fun wd hwd K hK => ?_)
            go_simp
            refine hK _ _ ?_
            clear hK K
            go_wp2_with fail
            go_roundw
            case rel => exact ⟨k + 1, by omega, by go_num, hid (HO3.out.below hwd), hid (HB3.out.trans (Below.mono hwd HB3.out.size))⟩
            case measure => simp [intOf]; omega
        · obtain rfl : k = 1 := by omega
          go_wp2_with fail
          go_ret
          exact ⟨_, rfl, by rw [partsTo_len]; exact hown.out, hb.out⟩
    · have hdn : (((s.size : Int) + 116 - 1) / 116 == 0) = false := beq_eq_false_iff_ne.2 (by omega)
      have hdm : ((parts s : Int) == 0) = false := beq_eq_false_iff_ne.2 (by unfold parts; omega)
      have hN : ((s.size : Int) + 116 - 1) / 116 = (parts s : Int) := by unfold parts; omega
      generalize parts s = n at *
      go_enter Try.func21, Try.ntmps21
      go_wp2_with (go_at_call 55; refine (HIN.out _ _ _ _).mono ?_; rw [d1]; rintro e w1 ⟨rfl, rfl⟩)
      rw [hN]
      clear hdm
      generalize hw0 : w.alloc (.cells #[] 9) = w0 at *
      clear hw0 hdn hN
      go_loopw [5, 7] (fun v i wr => ∃ (k : Nat), k ≤ n ∧ i = .int .i64 k ∧ Hid (OwG wr w.heap.size 9 1 v k (encS (partsTo q s k))) ∧ Hid (Below w.heap.size w wr)) (fun _ i _ => n - (intOf i).toNat)
      case atStart => exact ⟨0, by omega, rfl, HE.out, HBE.out⟩
      case round =>
        obtain ⟨k, hk, rfl, hown, hb⟩ := hrel
        clear HE HBE
        obtain ⟨ao, cap, rfl, hpc, _⟩ := hown.out.shape
        by_cases hlt : k < n
        · have hlt' : (k : Int) < (n : Int) := by omega
          have hkm := HK.out k hlt
          have HPK := HPB.out k
          have w1 : IntKind.u32.wrap q = q := by rw [IntKind.wrap_u32]; omega
          have w2 : IntKind.u32.wrap (k : Int) = (k : Int) := by rw [IntKind.wrap_u32]; omega
          have w3 : IntKind.u32.wrap (n : Int) = (n : Int) := by rw [IntKind.wrap_u32]; omega
          have z1 : IntKind.i64.wrap ((k : Int) * 116) = (k : Int) * 116 := by rw [IntKind.wrap_i64]; omega
          have z7 : ((k : Int) * 116).toNat = k * 116 := by omega
          have z9 : (0 : Int) ≤ (k : Int) * 116 := by omega
          by_cases hgt : (s.size : Int) < ((k : Int) + 1) * 116
          ·
            rw [show min ((k + 1) * 116) s.size = s.size by omega] at HPK
            have z8 : ((s.size : Int)).toNat = s.size := by omega
            have za : (0 : Int) ≤ (s.size : Int) := by omega
            have zb : (s.size : Int) ≤ (s.size : Int) := by omega
            have zc : (k : Int) * 116 ≤ (s.size : Int) := by omega
            have z10 : (strOfNums (wordBytes q)).size = 4 ∧ (strOfNums (wordBytes (k : Int))).size = 4 ∧ (strOfNums (wordBytes (n : Int))).size = 4 := by
              rw [strOfNums_size, strOfNums_size, strOfNums_size]
              exact ⟨rfl, rfl, rfl⟩
            obtain ⟨z10, z11, z12⟩ := z10
            have z13 : ¬ 9223372036854775807 < 4 + 4 + 4 + (min (s.size) s.size - k * 116) := by omega
            have z14 : ¬ 9223372036854775807 < 4 + 4 + 4 + (s.size - k * 116) := by omega
            have zd : (k : Int) ≤ (k : Int) + 1 := by omega
            replace HPK := hid HPK
            clear hkm
            go_wp2_with fail
            refine region_R (by kernel_rfl) ?_
            refine anyR_quiet 0 rfl (by kernel_rfl) (by kernel_rfl) (by kernel_rfl) (fun K hK => ?_)
            go_simp
            refine ⟨_, fun _ _ => rfl, hK _ ?_⟩
            clear hK K
            refine anyR_quiet 1 rfl (by kernel_rfl) (by kernel_rfl) (by kernel_rfl) (fun K hK => ?_)
            go_simp
            refine ⟨_, fun _ _ => rfl, hK _ ?_⟩
            clear hK K
            refine anyR_quiet 2 rfl (by kernel_rfl) (by kernel_rfl) (by kernel_rfl) (fun K hK => ?_)
            go_simp
            refine ⟨_, fun _ _ => rfl, hK _ ?_⟩
            clear hK K
            refine anyR_quiet 3 rfl (by kernel_rfl) (by kernel_rfl) (by kernel_rfl) (fun K hK => ?_)
            go_simp
            apply Exists.intro
            refine ⟨fun wz hwz => ?_, hK _ ?_⟩
            · go_at_call 56
              exact (HPW.out _ wz (by omega) (by omega)).mono (fun _ _ h => ⟨h.1, h.2⟩)
            clear hK K
            refine anyR_quiet 4 rfl (by kernel_rfl) (by kernel_rfl) (by kernel_rfl) (fun K hK => ?_)
            go_simp
            refine ⟨_, fun _ _ => rfl, hK _ ?_⟩
            clear hK K
            refine anyR_quiet 5 rfl (by kernel_rfl) (by kernel_rfl) (by kernel_rfl) (fun K hK => ?_)
            go_simp
            refine ⟨_, fun _ _ => rfl, hK _ ?_⟩
            clear hK K
            refine anyR_quiet 6 rfl (by kernel_rfl) (by kernel_rfl) (by kernel_rfl) (fun K hK => ?_)
            go_simp
            apply Exists.intro
            refine ⟨fun wz hwz => ?_, hK _ ?_⟩
            · go_at_call 56
              exact (HPW.out _ wz (by omega) (by omega)).mono (fun _ _ h => ⟨h.1, h.2⟩)
            clear hK K
            refine anyR_quiet 7 rfl (by kernel_rfl) (by kernel_rfl) (by kernel_rfl) (fun K hK => ?_)
            go_simp
            refine ⟨_, fun _ _ => rfl, hK _ ?_⟩
            clear hK K
            refine anyR_quiet 8 rfl (by kernel_rfl) (by kernel_rfl) (by kernel_rfl) (fun K hK => ?_)
            go_simp
            refine ⟨_, fun _ _ => rfl, hK _ ?_⟩
            clear hK K
            refine anyR_quiet 9 rfl (by kernel_rfl) (by kernel_rfl) (by kernel_rfl) (fun K hK => ?_)
            go_simp
            refine ⟨_, fun _ _ => rfl, hK _ ?_⟩
            clear hK K
            refine anyR_quiet 10 rfl (by kernel_rfl) (by kernel_rfl) (by kernel_rfl) (fun K hK => ?_)
            go_simp
            apply Exists.intro
            refine ⟨fun wz hwz => ?_, hK _ ?_⟩
            · go_at_call 56
              exact (HPW.out _ wz (by omega) (by omega)).mono (fun _ _ h => ⟨h.1, h.2⟩)
            clear hK K
            refine anyR_quiet 11 rfl (by kernel_rfl) (by kernel_rfl) (by kernel_rfl) (fun K hK => ?_)
            go_simp
            refine ⟨_, fun _ _ => rfl, hK _ ?_⟩
            clear hK K
            refine anyR_quiet 12 rfl (by kernel_rfl) (by kernel_rfl) (by kernel_rfl) (fun K hK => ?_)
            go_simp
            refine ⟨_, fun _ _ => rfl, hK _ ?_⟩
            clear hK K
            refine anyR_quiet 13 rfl (by kernel_rfl) (by kernel_rfl) (by kernel_rfl) (fun K hK => ?_)
            go_simp
            refine ⟨_, fun _ _ => rfl, hK _ ?_⟩
            clear hK K
            refine anyR_quiet 14 rfl (by kernel_rfl) (by kernel_rfl) (by kernel_rfl) (fun K hK => ?_)
            go_simp
            refine ⟨_, fun _ _ => rfl, hK _ ?_⟩
            clear hK K
            refine anyR_quiet 15 rfl (by kernel_rfl) (by kernel_rfl) (by kernel_rfl) (fun K hK => ?_)
            go_simp
            refine ⟨_, fun _ _ => rfl, hK _ ?_⟩
            clear hK K
            refine anyR_quiet 16 rfl (by kernel_rfl) (by kernel_rfl) (by kernel_rfl) (fun K hK => ?_)
            go_simp
            refine ⟨_, fun _ _ => rfl, hK _ ?_⟩
            clear hK K
            refine anyR_quiet 17 rfl (by kernel_rfl) (by kernel_rfl) (by kernel_rfl) (fun K hK => ?_)
            go_simp
            refine ⟨_, fun _ _ => rfl, hK _ ?_⟩
            clear hK K
            clear w1 w2 w3 z1 z7 z9 z8 za zb zc z13 z14
            rw [← HPK.out]
            have HOC := hid (show ∀ u ∈ [Value.string (partB q s k)], u.oneCell' = true from fun u hu => by simp at hu; subst hu; rfl)
            generalize hX : partB q s k = X at *
            refine anyR_one 18 rfl (by kernel_rfl) (by kernel_rfl) (fun wa hwa K hK => ?_)
            go_simp
            refine hK _ _ (.inr ((Below.refl _ _).alloc (Nat.le_refl _) _)) ?_
            clear hK K
            have GB := hid (Blk.new wa [.string X] 9)
            have HB1 := hid (hwa.trans ((Below.refl wa.heap.size wa).alloc (Nat.le_refl _) (.cells #[.string X] 9)))
            generalize wa.alloc (.cells #[.string X] 9) = wb at *
            refine anyR_call 19 rfl rfl (by kernel_rfl) (by kernel_rfl) (fun wc hwc K hK => ?_)
            have HO2 := hid (hown.out.below (HB1.out.trans hwc))
            have GB2 := hid (GB.out.below hwc GB.out.lt)
            refine wp_of_list (ops := #[]) rfl (wpList_appG wc rfl (.tmp 40) (.tmp 58) 24 rfl w.heap.size 9 (.string ByteArray.empty) 1 16 Try.underlying24 Try.info9 rfl (by decide) _ k _ rfl HO2.out (some ⟨wa.heap.size, 0, none⟩) 1 1 [.string X] rfl rfl GB2.out.rw (.inr ⟨_, _, rfl⟩) HOC.out (by omega) (by decide) ?_)
            intro v2 w2 ho2 hb2 _
            refine ⟨rfl, hK _ _ (.inl (by kernel_rfl)) ?_⟩
            clear hK K
            have HO3 := hid ho2
            rw [← hX, ← partsTo_succ] at HO3
            have HB3 := hid (((hb.out.trans (Below.mono (HB1.out.trans hwc) hb.out.size)).trans hb2))
            clear ho2 hb2 HO2 GB2 GB
            refine anyR_last 20 rfl (by kernel_rfl) (by kernel_rfl) (fun wd hwd K hK => ?_)
            go_simp
            refine hK _ _ ?_
            clear hK K
            go_wp2_with fail
            go_roundw
            case rel => exact ⟨k + 1, by omega, by go_num, hid (HO3.out.below hwd), hid (HB3.out.trans (Below.mono hwd HB3.out.size))⟩
            case measure => simp [intOf]; omega
          ·
            rw [show min ((k + 1) * 116) s.size = (k + 1) * 116 by omega] at HPK
            have z8 : (((k : Int) + 1) * 116).toNat = (k + 1) * 116 := by omega
            have za : (0 : Int) ≤ ((k : Int) + 1) * 116 := by omega
            have zb : ((k : Int) + 1) * 116 ≤ (s.size : Int) := by omega
            have zc : (k : Int) * 116 ≤ ((k : Int) + 1) * 116 := by omega
            have z10 : (strOfNums (wordBytes q)).size = 4 ∧ (strOfNums (wordBytes (k : Int))).size = 4 ∧ (strOfNums (wordBytes (n : Int))).size = 4 := by
              rw [strOfNums_size, strOfNums_size, strOfNums_size]
              exact ⟨rfl, rfl, rfl⟩
            obtain ⟨z10, z11, z12⟩ := z10
            have z13 : ¬ 9223372036854775807 < 4 + 4 + 4 + (min ((k + 1) * 116) s.size - k * 116) := by omega
            have z14 : ¬ 9223372036854775807 < 4 + 4 + 4 + ((k + 1) * 116 - k * 116) := by omega
            have zd : (k : Int) ≤ (k : Int) + 1 := by omega
            replace HPK := hid HPK
            clear hkm
            go_wp2_with fail
            refine region_R (by kernel_rfl) ?_
            refine anyR_quiet 0 rfl (by kernel_rfl) (by kernel_rfl) (by kernel_rfl) (fun K hK => ?_)
            go_simp
            refine ⟨_, fun _ _ => rfl, hK _ ?_⟩
            clear hK K
            refine anyR_quiet 1 rfl (by kernel_rfl) (by kernel_rfl) (by kernel_rfl) (fun K hK => ?_)
            go_simp
            refine ⟨_, fun _ _ => rfl, hK _ ?_⟩
            clear hK K
            refine anyR_quiet 2 rfl (by kernel_rfl) (by kernel_rfl) (by kernel_rfl) (fun K hK => ?_)
            go_simp
            refine ⟨_, fun _ _ => rfl, hK _ ?_⟩
            clear hK K
            refine anyR_quiet 3 rfl (by kernel_rfl) (by kernel_rfl) (by kernel_rfl) (fun K hK => ?_)
            go_simp
            apply Exists.intro
            refine ⟨fun wz hwz => ?_, hK _ ?_⟩
            · go_at_call 56
              exact (HPW.out _ wz (by omega) (by omega)).mono (fun _ _ h => ⟨h.1, h.2⟩)
            clear hK K
            refine anyR_quiet 4 rfl (by kernel_rfl) (by kernel_rfl) (by kernel_rfl) (fun K hK => ?_)
            go_simp
            refine ⟨_, fun _ _ => rfl, hK _ ?_⟩
            clear hK K
            refine anyR_quiet 5 rfl (by kernel_rfl) (by kernel_rfl) (by kernel_rfl) (fun K hK => ?_)
            go_simp
            refine ⟨_, fun _ _ => rfl, hK _ ?_⟩
            clear hK K
            refine anyR_quiet 6 rfl (by kernel_rfl) (by kernel_rfl) (by kernel_rfl) (fun K hK => ?_)
            go_simp
            apply Exists.intro
            refine ⟨fun wz hwz => ?_, hK _ ?_⟩
            · go_at_call 56
              exact (HPW.out _ wz (by omega) (by omega)).mono (fun _ _ h => ⟨h.1, h.2⟩)
            clear hK K
            refine anyR_quiet 7 rfl (by kernel_rfl) (by kernel_rfl) (by kernel_rfl) (fun K hK => ?_)
            go_simp
            refine ⟨_, fun _ _ => rfl, hK _ ?_⟩
            clear hK K
            refine anyR_quiet 8 rfl (by kernel_rfl) (by kernel_rfl) (by kernel_rfl) (fun K hK => ?_)
            go_simp
            refine ⟨_, fun _ _ => rfl, hK _ ?_⟩
            clear hK K
            refine anyR_quiet 9 rfl (by kernel_rfl) (by kernel_rfl) (by kernel_rfl) (fun K hK => ?_)
            go_simp
            refine ⟨_, fun _ _ => rfl, hK _ ?_⟩
            clear hK K
            refine anyR_quiet 10 rfl (by kernel_rfl) (by kernel_rfl) (by kernel_rfl) (fun K hK => ?_)
            go_simp
            apply Exists.intro
            refine ⟨fun wz hwz => ?_, hK _ ?_⟩
            · go_at_call 56
              exact (HPW.out _ wz (by omega) (by omega)).mono (fun _ _ h => ⟨h.1, h.2⟩)
            clear hK K
            refine anyR_quiet 11 rfl (by kernel_rfl) (by kernel_rfl) (by kernel_rfl) (fun K hK => ?_)
            go_simp
            refine ⟨_, fun _ _ => rfl, hK _ ?_⟩
            clear hK K
            refine anyR_quiet 12 rfl (by kernel_rfl) (by kernel_rfl) (by kernel_rfl) (fun K hK => ?_)
            go_simp
            refine ⟨_, fun _ _ => rfl, hK _ ?_⟩
            clear hK K
            refine anyR_quiet 13 rfl (by kernel_rfl) (by kernel_rfl) (by kernel_rfl) (fun K hK => ?_)
            go_simp
            refine ⟨_, fun _ _ => rfl, hK _ ?_⟩
            clear hK K
            refine anyR_quiet 14 rfl (by kernel_rfl) (by kernel_rfl) (by kernel_rfl) (fun K hK => ?_)
            go_simp
            refine ⟨_, fun _ _ => rfl, hK _ ?_⟩
            clear hK K
            refine anyR_quiet 15 rfl (by kernel_rfl) (by kernel_rfl) (by kernel_rfl) (fun K hK => ?_)
            go_simp
            refine ⟨_, fun _ _ => rfl, hK _ ?_⟩
            clear hK K
            refine anyR_quiet 16 rfl (by kernel_rfl) (by kernel_rfl) (by kernel_rfl) (fun K hK => ?_)
            go_simp
            refine ⟨_, fun _ _ => rfl, hK _ ?_⟩
            clear hK K
            refine anyR_quiet 17 rfl (by kernel_rfl) (by kernel_rfl) (by kernel_rfl) (fun K hK => ?_)
            go_simp
            refine ⟨_, fun _ _ => rfl, hK _ ?_⟩
            clear hK K
            clear w1 w2 w3 z1 z7 z9 z8 za zb zc z13 z14
            rw [← HPK.out]
            have HOC := hid (show ∀ u ∈ [Value.string (partB q s k)], u.oneCell' = true from fun u hu => by simp at hu; subst hu; rfl)
            generalize hX : partB q s k = X at *
            refine anyR_one 18 rfl (by kernel_rfl) (by kernel_rfl) (fun wa hwa K hK => ?_)
            go_simp
            refine hK _ _ (.inr ((Below.refl _ _).alloc (Nat.le_refl _) _)) ?_
            clear hK K
            have GB := hid (Blk.new wa [.string X] 9)
            have HB1 := hid (hwa.trans ((Below.refl wa.heap.size wa).alloc (Nat.le_refl _) (.cells #[.string X] 9)))
            generalize wa.alloc (.cells #[.string X] 9) = wb at *
            refine anyR_call 19 rfl rfl (by kernel_rfl) (by kernel_rfl) (fun wc hwc K hK => ?_)
            have HO2 := hid (hown.out.below (HB1.out.trans hwc))
            have GB2 := hid (GB.out.below hwc GB.out.lt)
            refine wp_of_list (ops := #[]) rfl (wpList_appG wc rfl (.tmp 40) (.tmp 58) 24 rfl w.heap.size 9 (.string ByteArray.empty) 1 16 Try.underlying24 Try.info9 rfl (by decide) _ k _ rfl HO2.out (some ⟨wa.heap.size, 0, none⟩) 1 1 [.string X] rfl rfl GB2.out.rw (.inr ⟨_, _, rfl⟩) HOC.out (by omega) (by decide) ?_)
            intro v2 w2 ho2 hb2 _
            refine ⟨rfl, hK _ _ (.inl (by kernel_rfl)) ?_⟩
            clear hK K
            have HO3 := hid ho2
            rw [← hX, ← partsTo_succ] at HO3
            have HB3 := hid (((hb.out.trans (Below.mono (HB1.out.trans hwc) hb.out.size)).trans hb2))
            clear ho2 hb2 HO2 GB2 GB
            refine anyR_last 20 rfl (by kernel_rfl) (by kernel_rfl) (fun wd hwd K hK => ?_)
            go_simp
            refine hK _ _ ?_
            clear hK K
            go_wp2_with fail
            go_roundw
            case rel => exact ⟨k + 1, by omega, by go_num, hid (HO3.out.below hwd), hid (HB3.out.trans (Below.mono hwd HB3.out.size))⟩
            case measure => simp [intOf]; omega
        · obtain rfl : k = n := by omega
          go_wp2_with fail
          go_ret
          exact ⟨_, rfl, by rw [partsTo_len]; exact hown.out, hb.out⟩
  · have hp : partsP q s = [] := by simp [partsP, partOk, hok]
    rw [hp]
    by_cases d1 : 1 ≤ q ∧ q ≤ 1000000000
    · have e1 := decide_eq_true d1
      have d3 : (60000 : Int) < (s.size : Int) := by omega
      go_enter Try.func21, Try.ntmps21
      go_wp2_with (go_at_call 55; refine (HIN.out _ _ _ _).mono ?_; rw [e1]; rintro e w1 ⟨rfl, rfl⟩)
      go_ret
      exact ⟨_, rfl, HE.out, HBE.out⟩
    · have e1 := decide_eq_false d1
      go_enter Try.func21, Try.ntmps21
      go_wp2_with (go_at_call 55; refine (HIN.out _ _ _ _).mono ?_; rw [e1]; rintro e w1 ⟨rfl, rfl⟩)
      go_ret
      exact ⟨_, rfl, HE.out, HBE.out⟩
end Go.Proofs.Ytphhgfgmlfdkiaa
