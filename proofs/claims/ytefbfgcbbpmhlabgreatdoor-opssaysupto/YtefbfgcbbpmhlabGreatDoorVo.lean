/-
  Joined: Vq, Vr, Vo.
-/
import Derived.Test.YtefbfgcbbpmhlabGreatDoorAp
import Derived.Test.YtefbfgcbbpmhlabGreatDoorVn
import Derived.Deep.RegionLaw
import Derived.Deep.DrawnRows
import Derived.Test.YtefbfgcbbpmhlabGreatDoorVd1

/-
  The program's own text of a string: bytes behind bytes.
-/
namespace Go.Proofs.YtefbfgcbbpmhlabGreatDoor
open Go.RowKit
set_option maxRecDepth 100000

theorem octal (c : UInt8) (h : c.toNat < 32 ∨ 126 < c.toNat) : ∃ o : Nat → UInt8, escS c = [92, o 0, o 1, o 2] ∧ ((o 0).toNat : Int) = 48 + (c.toNat : Int) / 64 ∧ ((o 1).toNat : Int) = 48 + (c.toNat : Int) / 8 % 8 ∧ ((o 2).toNat : Int) = 48 + (c.toNat : Int) % 8 := by
  have hc := c.toNat_lt
  have hne : ¬ (c = 40 ∨ c = 41 ∨ c = 92) := by
    rintro (h | h | h) <;> (subst h; simp at *)
  refine ⟨fun k => if k = 0 then UInt8.ofNat (48 + c.toNat / 64) else if k = 1 then UInt8.ofNat (48 + c.toNat / 8 % 8) else UInt8.ofNat (48 + c.toNat % 8), ?_, ?_, ?_, ?_⟩
  · unfold escS; rw [if_neg hne, if_neg (by omega)]; rfl
  · simp; omega
  · simp; omega
  · simp; omega
set_option maxHeartbeats 1000000 in
theorem addString_says (s : ByteArray) (B : Nat) (sv : Value) (xs : List UInt8) (w : World) (hs : s.size ≤ 100000) (hown : Own8 w B sv xs) (hB : B ≤ w.heap.size) (hlim : xs.length ≤ 100000000) :
    Calls Tryz.prog 214 #[sv, .string s] w fun e w' => ∃ v', e = .returned v' ∧ Own8 w' B v' (xs ++ strT s.data.toList) ∧ Kept8 B w w' := by
  go_enter Tryz.func214, Tryz.ntmps214
  go_wp2_with (at_builtin; refine wpApp8 rfl (.tmp 8) (.tmp 9) rfl B _ xs rfl hown _ [40] 1 1 rfl rfl rfl (by omega) hB ?_)
  intro v1 w1 hown1 hk1
  go_wp2
  go_loopw [0, 13] (fun t i wr => ∃ k : Nat, i = .int .i64 k ∧ k ≤ s.size ∧ Own8 wr B t (xs ++ 40 :: (s.data.toList.take k).flatMap escS) ∧ Kept8 B w wr) (fun _ i _ => s.size - (intOf i).toNat)
  case atStart => exact ⟨0, rfl, Nat.zero_le _, by simpa using hown1, hk1⟩
  case round =>
    clear hown1 hk1 hown
    obtain ⟨k, rfl, hk, hown, hb⟩ := hrel
    have hbs := hb.size
    have hfl2 : ((s.data.toList.take k).flatMap escS).length ≤ 400000 := by
      have hfl := flat_len (s.data.toList.take k)
      have : (s.data.toList.take k).length ≤ s.size := by simp; omega
      omega
    generalize hpre : (s.data.toList.take k).flatMap escS = pre at *
    have HPR := hid hpre
    clear hpre
    by_cases hlt : k < s.size
    · have HT := hid (take_snoc s k hlt)
      have hc256 := s[k].toNat_lt
      by_cases hp1 : (s[k].toNat : Int) < 32
      · obtain ⟨o, ho, q0, q1, q2⟩ := octal s[k] (by omega)
        have HE := hid ho
        clear ho
        go_wp2_with (at_builtin; refine wpApp8 rfl (.tmp 30) (.tmp 31) rfl B _ _ rfl hown _ [92] 1 1 rfl rfl rfl (by simp; omega) (by omega) ?_)
        intro v2 w2 hown2 hk2
        have hb2 := hb.trans hk2
        clear hown hk2 hb
        go_wp2
        go_loopw [0, 33] (fun t i wq => ∃ m : Nat, i = .int .i64 m ∧ m ≤ 3 ∧ Own8 wq B t (xs ++ 40 :: pre ++ 92 :: (List.range m).map o) ∧ Kept8 B w wq) (fun _ i _ => 3 - (intOf i).toNat)
        case atStart => exact ⟨0, rfl, by omega, by simpa using hown2, hb2⟩
        case round =>
          clear hown2 hb2 hbs
          obtain ⟨m, rfl, hm, hown, hb⟩ := hrel
          have hbs := hb.size
          rcases (by omega : m = 0 ∨ m = 1 ∨ m = 2 ∨ m = 3) with rfl | rfl | rfl | rfl
          · go_wp2_with (at_builtin; refine wpApp8 rfl (.tmp 36) (.tmp 44) rfl B _ _ rfl hown _ [o 0] 1 1 rfl rfl ?cc (by simp; omega) (by omega) ?_)
            case cc => exact one8 (by omega)
            intro v3 w3 hown3 hk3
            have hb3 := hb.trans hk3
            clear hown hk3 hb
            go_wp2
            go_roundw
            case rel => exact ⟨1, by go_num, by omega, by simpa [List.range_succ] using hown3, hb3⟩
            case measure => simp [intOf]
          · go_wp2_with (at_builtin; refine wpApp8 rfl (.tmp 36) (.tmp 44) rfl B _ _ rfl hown _ [o 1] 1 1 rfl rfl ?cc (by simp; omega) (by omega) ?_)
            case cc => exact one8 (by omega)
            intro v3 w3 hown3 hk3
            have hb3 := hb.trans hk3
            clear hown hk3 hb
            go_wp2
            go_roundw
            case rel => exact ⟨2, by go_num, by omega, by simpa [List.range_succ] using hown3, hb3⟩
            case measure => simp [intOf]
          · go_wp2_with (at_builtin; refine wpApp8 rfl (.tmp 36) (.tmp 44) rfl B _ _ rfl hown _ [o 2] 1 1 rfl rfl ?cc (by simp; omega) (by omega) ?_)
            case cc => exact one8 (by omega)
            intro v3 w3 hown3 hk3
            have hb3 := hb.trans hk3
            clear hown hk3 hb
            go_wp2
            go_roundw
            case rel => exact ⟨3, by go_num, by omega, by simpa [List.range_succ] using hown3, hb3⟩
            case measure => simp [intOf]
          · go_wp2
            go_roundw
            case rel =>
              refine ⟨k + 1, by go_num, by omega, ?_, hb⟩
              rw [HT.out, List.flatMap_append, HPR.out, List.flatMap_singleton, HE.out]
              simpa [List.range_succ] using hown
            case measure => simp [intOf]; omega
      by_cases hp2 : (126 : Int) < (s[k].toNat : Int)
      · obtain ⟨o, ho, q0, q1, q2⟩ := octal s[k] (by omega)
        have HE := hid ho
        clear ho
        go_wp2_with (at_builtin; refine wpApp8 rfl (.tmp 30) (.tmp 31) rfl B _ _ rfl hown _ [92] 1 1 rfl rfl rfl (by simp; omega) (by omega) ?_)
        intro v2 w2 hown2 hk2
        have hb2 := hb.trans hk2
        clear hown hk2 hb
        go_wp2
        go_loopw [0, 33] (fun t i wq => ∃ m : Nat, i = .int .i64 m ∧ m ≤ 3 ∧ Own8 wq B t (xs ++ 40 :: pre ++ 92 :: (List.range m).map o) ∧ Kept8 B w wq) (fun _ i _ => 3 - (intOf i).toNat)
        case atStart => exact ⟨0, rfl, by omega, by simpa using hown2, hb2⟩
        case round =>
          clear hown2 hb2 hbs
          obtain ⟨m, rfl, hm, hown, hb⟩ := hrel
          have hbs := hb.size
          rcases (by omega : m = 0 ∨ m = 1 ∨ m = 2 ∨ m = 3) with rfl | rfl | rfl | rfl
          · go_wp2_with (at_builtin; refine wpApp8 rfl (.tmp 36) (.tmp 44) rfl B _ _ rfl hown _ [o 0] 1 1 rfl rfl ?cc (by simp; omega) (by omega) ?_)
            case cc => exact one8 (by omega)
            intro v3 w3 hown3 hk3
            have hb3 := hb.trans hk3
            clear hown hk3 hb
            go_wp2
            go_roundw
            case rel => exact ⟨1, by go_num, by omega, by simpa [List.range_succ] using hown3, hb3⟩
            case measure => simp [intOf]
          · go_wp2_with (at_builtin; refine wpApp8 rfl (.tmp 36) (.tmp 44) rfl B _ _ rfl hown _ [o 1] 1 1 rfl rfl ?cc (by simp; omega) (by omega) ?_)
            case cc => exact one8 (by omega)
            intro v3 w3 hown3 hk3
            have hb3 := hb.trans hk3
            clear hown hk3 hb
            go_wp2
            go_roundw
            case rel => exact ⟨2, by go_num, by omega, by simpa [List.range_succ] using hown3, hb3⟩
            case measure => simp [intOf]
          · go_wp2_with (at_builtin; refine wpApp8 rfl (.tmp 36) (.tmp 44) rfl B _ _ rfl hown _ [o 2] 1 1 rfl rfl ?cc (by simp; omega) (by omega) ?_)
            case cc => exact one8 (by omega)
            intro v3 w3 hown3 hk3
            have hb3 := hb.trans hk3
            clear hown hk3 hb
            go_wp2
            go_roundw
            case rel => exact ⟨3, by go_num, by omega, by simpa [List.range_succ] using hown3, hb3⟩
            case measure => simp [intOf]
          · go_wp2
            go_roundw
            case rel =>
              refine ⟨k + 1, by go_num, by omega, ?_, hb⟩
              rw [HT.out, List.flatMap_append, HPR.out, List.flatMap_singleton, HE.out]
              simpa [List.range_succ] using hown
            case measure => simp [intOf]; omega
      by_cases h40 : (s[k].toNat : Int) = 40
      · have HE := hid (show escS s[k] = [92, 40] by rw [u8_of (k := 40) h40]; rfl)
        go_wp2_with (at_builtin; refine wpApp8 rfl (.tmp 58) (.tmp 60) rfl B _ _ rfl hown _ [92, 40] 2 2 rfl rfl rfl (by simp; omega) (by omega) ?_)
        intro v2 w2 hown2 hk2
        have hb2 := hb.trans hk2
        clear hown hk2 hb
        go_wp2
        go_roundw
        case rel =>
          refine ⟨k + 1, by go_num, by omega, ?_, hb2⟩
          rw [HT.out, List.flatMap_append, HPR.out, List.flatMap_singleton, HE.out]
          simpa using hown2
        case measure => simp [intOf]; omega
      by_cases h41 : (s[k].toNat : Int) = 41
      · have HE := hid (show escS s[k] = [92, 41] by rw [u8_of (k := 41) h41]; rfl)
        go_wp2_with (at_builtin; refine wpApp8 rfl (.tmp 58) (.tmp 60) rfl B _ _ rfl hown _ [92, 41] 2 2 rfl rfl rfl (by simp; omega) (by omega) ?_)
        intro v2 w2 hown2 hk2
        have hb2 := hb.trans hk2
        clear hown hk2 hb
        go_wp2
        go_roundw
        case rel =>
          refine ⟨k + 1, by go_num, by omega, ?_, hb2⟩
          rw [HT.out, List.flatMap_append, HPR.out, List.flatMap_singleton, HE.out]
          simpa using hown2
        case measure => simp [intOf]; omega
      by_cases h92 : (s[k].toNat : Int) = 92
      · have HE := hid (show escS s[k] = [92, 92] by rw [u8_of (k := 92) h92]; rfl)
        go_wp2_with (at_builtin; refine wpApp8 rfl (.tmp 58) (.tmp 60) rfl B _ _ rfl hown _ [92, 92] 2 2 rfl rfl rfl (by simp; omega) (by omega) ?_)
        intro v2 w2 hown2 hk2
        have hb2 := hb.trans hk2
        clear hown hk2 hb
        go_wp2
        go_roundw
        case rel =>
          refine ⟨k + 1, by go_num, by omega, ?_, hb2⟩
          rw [HT.out, List.flatMap_append, HPR.out, List.flatMap_singleton, HE.out]
          simpa using hown2
        case measure => simp [intOf]; omega
      have hne : ¬ (s[k] = 40 ∨ s[k] = 41 ∨ s[k] = 92) := by
        rintro (h | h | h)
        · exact h40 (by rw [h]; rfl)
        · exact h41 (by rw [h]; rfl)
        · exact h92 (by rw [h]; rfl)
      have HE := hid (show escS s[k] = [s[k]] by unfold escS; rw [if_neg hne, if_pos (by omega)])
      clear hne
      have b40 : ((s[k].toNat : Int) == 40) = false := by simpa using h40
      have b41 : ((s[k].toNat : Int) == 41) = false := by simpa using h41
      have b92 : ((s[k].toNat : Int) == 92) = false := by simpa using h92
      go_wp2_with (at_builtin; refine wpApp8 rfl (.tmp 19) (.tmp 21) rfl B _ _ rfl hown _ [s[k]] 1 1 rfl rfl rfl (by simp; omega) (by omega) ?_)
      intro v2 w2 hown2 hk2
      have hb2 := hb.trans hk2
      clear hown hk2 hb
      go_wp2
      go_roundw
      case rel =>
        refine ⟨k + 1, by go_num, by omega, ?_, hb2⟩
        rw [HT.out, List.flatMap_append, HPR.out, List.flatMap_singleton, HE.out]
        simpa using hown2
      case measure => simp [intOf]; omega
    · have hke : k = s.size := by omega
      have HPE := hid (show strT s.data.toList = 40 :: pre ++ [41] by have := HPR.out; rw [hke, List.take_of_length_le (by simp)] at this; unfold strT; rw [this])
      go_wp2_with (at_builtin; refine wpApp8 rfl (.tmp 63) (.tmp 64) rfl B _ _ rfl hown _ [41] 1 1 rfl rfl rfl (by simp; omega) (by omega) ?_)
      intro v2 w2 hown2 hk2
      have hb2 := hb.trans hk2
      clear hown hk2 hb
      go_wp2
      go_ret
      refine ⟨v2, rfl, ?_, hb2⟩
      rw [HPE.out]
      simpa using hown2
end Go.Proofs.YtefbfgcbbpmhlabGreatDoor

/-
  The program's own text of a name.
-/
namespace Go.Proofs.YtefbfgcbbpmhlabGreatDoor
open Go.RowKit
set_option maxRecDepth 100000
attribute [local go_sem ↓] Go.wp_at_zero Go.wp_at_succ

theorem hard_contains (c : UInt8) : [40, 41, 60, 62, 91, 93, 123, 125, 47, 37, 35].contains c = hardN c := by
  unfold hardN; rw [Bool.eq_iff_iff]; simp [or_assoc]
theorem indexByte_hard (c : UInt8) : (0 ≤ Lib.indexByte [40, 41, 60, 62, 91, 93, 123, 125, 47, 37, 35] c) ↔ hardN c = true := by
  rw [← hard_contains]
  have h := indexByte_neg [40, 41, 60, 62, 91, 93, 123, 125, 47, 37, 35] c
  cases hh : [40, 41, 60, 62, 91, 93, 123, 125, 47, 37, 35].contains c
  · rw [hh] at h
    have := h.2 rfl
    exact iff_of_false (by omega) (by simp)
  · rw [hh] at h
    exact iff_of_true (by have : ¬ Lib.indexByte [40, 41, 60, 62, 91, 93, 123, 125, 47, 37, 35] c < 0 := fun h' => by cases h.1 h'
                          omega) rfl
theorem and15 (c : UInt8) : bits .and .u8 (c.toNat : Int) 15 = (c.toNat : Int) % 16 := by
  have h : ∀ x : Fin 256, bits .and .u8 (x.1 : Int) 15 = (x.1 : Int) % 16 := by decide
  exact h ⟨c.toNat, c.toNat_lt⟩

set_option maxHeartbeats 1000000 in
theorem addName_says (s : ByteArray) (B : Nat) (sv : Value) (xs : List UInt8) (w : World) (hs : s.size ≤ 100000) (hown : Own8 w B sv xs) (hB : B ≤ w.heap.size) (hlim : xs.length ≤ 100000000) :
    Calls Tryz.prog 215 #[sv, .string s] w fun e w' => ∃ v', e = .returned v' ∧ Own8 w' B v' (xs ++ nameT s.data.toList) ∧ Grew sv w v' w' := by
  go_enter Tryz.func215, Tryz.ntmps215
  go_wp2_with (at_builtin; refine wpApp8g rfl (.tmp 7) (.tmp 8) rfl B _ xs rfl (hown.alloc _) w.heap.size [47] 1 1 rfl (0, 0) rfl _ rfl (heap_alloc_new _ _) (by omega) (by simp; omega) ?_)
  intro v1 w1 hown1 hk1
  replace hk1 := hk1.unalloc
  go_wp2
  go_loopw [0, 12] (fun t i wr => ∃ k : Nat, i = .int .i64 k ∧ k ≤ s.size ∧ Own8 wr B t (xs ++ 47 :: (s.data.toList.take k).flatMap escN) ∧ Grew sv w t wr) (fun _ i _ => s.size - (intOf i).toNat)
  case atStart => exact ⟨0, rfl, Nat.zero_le _, by simpa using hown1, hk1⟩
  case round =>
    clear hown1 hk1 hown
    obtain ⟨k, rfl, hk, hown, hb⟩ := hrel
    have hbs := hb.size
    have hfl2 : ((s.data.toList.take k).flatMap escN).length ≤ 400000 := by
      have hfl := flatN_len (s.data.toList.take k)
      have : (s.data.toList.take k).length ≤ s.size := by simp; omega
      omega
    generalize hpre : (s.data.toList.take k).flatMap escN = pre at *
    have HPR := hid hpre
    clear hpre
    by_cases hlt : k < s.size
    · have HT := hid (take_snoc s k hlt)
      have hc256 := s[k].toNat_lt
      have ex : ∃ a b : Nat, (s[k].toNat : Int) / 16 = a ∧ (s[k].toNat : Int) % 16 = b ∧ a < 16 ∧ b < 16 ∧ s[k].toNat / 16 = a ∧ s[k].toNat % 16 = b := ⟨s[k].toNat / 16, s[k].toNat % 16, by omega, by omega, by omega, by omega, rfl, rfl⟩
      obtain ⟨a, b, ea, eb, la, lb, na, nb⟩ := ex
      have HAB := hid (And.intro na nb)
      clear na nb
      have la' : (a : Int) < 16 := by omega
      have lb' : (b : Int) < 16 := by omega
      have h15 : bits .and .u8 (s[k].toNat : Int) 15 = (b : Int) := by rw [and15, eb]
      have HX := hid (indexByte_hard s[k])
      go_upto_region 6 with fail
      go_cut [5, 6, 28] from 18 to 28 (fun i c t wx => i = .int .i64 k ∧ c = .int .u8 (s[k].toNat : Int) ∧ t = .bool (!(decide (32 < s[k].toNat ∧ s[k].toNat < 127 ∧ hardN s[k] = false))) ∧ wx = wr)
      case first =>
        by_cases h33 : (s[k].toNat : Int) < 33
        · go_wp2_with fail
          go_meet
          exact ⟨rfl, rfl, congrArg Value.bool (by simp; omega), rfl⟩
        by_cases h126 : (126 : Int) < s[k].toNat
        · go_wp2_with fail
          go_meet
          exact ⟨rfl, rfl, congrArg Value.bool (by simp; omega), rfl⟩
        go_wp2_with (go_at_call 230; refine (Tryz.strings_IndexByte _ _ _).mono ?_; rintro e w1 ⟨rfl, rfl⟩)
        go_meet
        refine ⟨rfl, rfl, congrArg Value.bool ?_, rfl⟩
        have := HX.out
        rw [Bool.eq_iff_iff]
        simp only [decide_eq_true_eq, Bool.not_eq_true', decide_eq_false_iff_not]
        rw [this]
        cases hardN s[k]
        · exact iff_of_false (by simp) (fun h => h ⟨by omega, by omega, rfl⟩)
        · exact iff_of_true rfl (fun h => by cases h.2.2)
      case rest =>
        obtain ⟨rfl, rfl, rfl, rfl⟩ := hcut
        by_cases hp : 32 < s[k].toNat ∧ s[k].toNat < 127 ∧ hardN s[k] = false
        · have HE := hid (show escN s[k] = [s[k]] by unfold escN; rw [if_pos hp])
          have hd : decide (32 < s[k].toNat ∧ s[k].toNat < 127 ∧ hardN s[k] = false) = true := decide_eq_true hp
          clear hp
          rw [hd]
          go_wp2_with (at_builtin; refine wpApp8g rfl (.tmp 38) (.tmp 40) rfl B _ _ rfl (hown.alloc _) wc.heap.size [s[k]] 1 1 rfl (0, 0) rfl _ rfl (heap_alloc_new _ _) (by simp; omega) (by simp; omega) ?_)
          intro v2 w2 hown2 hk2
          have hb2 := hb.trans hk2.unalloc
          clear hown hk2 hb
          go_wp2
          go_roundw
          case rel =>
            refine ⟨k + 1, by go_num, by omega, ?_, hb2⟩
            rw [HT.out, List.flatMap_append, HPR.out, List.flatMap_singleton, HE.out]
            simpa using hown2
          case measure => simp [intOf]; omega
        · have HE := hid (show escN s[k] = [35, hexD a, hexD b] by unfold escN; rw [if_neg hp, HAB.out.1, HAB.out.2])
          have hd : decide (32 < s[k].toNat ∧ s[k].toNat < 127 ∧ hardN s[k] = false) = false := decide_eq_false hp
          clear hp
          rw [hd]
          go_wp2_with fail
          go_region_law ((refine stepApp8g (by rfl) (.tmp 29) (.tmp 36) (by rfl) B _ (xs ++ 47 :: pre) (by rfl) (by exact hown.alloc _) wc.heap.size [35, hexD a, hexD b] 3 3 (by rfl) (0, 0) (by rfl) _ (by rw [← hexD_tbl a la, ← hexD_tbl b lb]) (by exact heap_alloc_new _ _) (by simp; omega) (by simp; omega) ?_; intro v2 w2 hown2 hk2))
          all_goals
            have hb2 := hb.trans hk2.undrew.unalloc
            clear hown hk2 hb
            go_wp2
            go_roundw
            case rel =>
              refine ⟨k + 1, by go_num, by omega, ?_, hb2⟩
              rw [HT.out, List.flatMap_append, HPR.out, List.flatMap_singleton, HE.out]
              simpa using hown2
            case measure => simp [intOf]; omega
    · have hke : k = s.size := by omega
      have HPE := hid (show nameT s.data.toList = 47 :: pre by have := HPR.out; rw [hke, List.take_of_length_le (by simp)] at this; unfold nameT; rw [this])
      go_wp2
      go_ret
      refine ⟨_, rfl, ?_, hb⟩
      rw [HPE.out]
      exact hown
end Go.Proofs.YtefbfgcbbpmhlabGreatDoor

/-
  A value's text; the document's own.
-/
namespace Go.Proofs.YtefbfgcbbpmhlabGreatDoor
open Go.RowKit
set_option maxRecDepth 100000

mutual
/-- The text of a value that may be. -/
def V.txt : V → List UInt8
  | ⟨k, n, s, l, f⟩ =>
    if k = 1 then (if n = 1 then [116, 114, 117, 101] else [102, 97, 108, 115, 101])
    else if k = 2 then (txtB n).data.toList
    else if k = 3 then strT s.data.toList
    else if k = 4 then nameT s.data.toList
    else if k = 5 then 91 :: (sepsL l).drop 1 ++ [93]
    else if k = 6 then 60 :: 60 :: sepsF f ++ [32, 62, 62]
    else if k = 7 then Lib.decDigits (n.toNat % 100) ++ [32, 48, 32, 82]
    else [110, 117, 108, 108]
def sepsL : List V → List UInt8
  | [] => []
  | x :: l => 32 :: V.txt x ++ sepsL l
def sepsF : List (ByteArray × V) → List UInt8
  | [] => []
  | q :: l => 32 :: fieldT q ++ sepsF l
def fieldT : ByteArray × V → List UInt8
  | (n, x) => nameT n.data.toList ++ 32 :: V.txt x
end
theorem txt_eq (v : V) : v.txt = (if v.k = 1 then (if v.n = 1 then [116, 114, 117, 101] else [102, 97, 108, 115, 101])
    else if v.k = 2 then (txtB v.n).data.toList
    else if v.k = 3 then strT v.s.data.toList
    else if v.k = 4 then nameT v.s.data.toList
    else if v.k = 5 then 91 :: (sepsL v.l).drop 1 ++ [93]
    else if v.k = 6 then 60 :: 60 :: sepsF v.f ++ [32, 62, 62]
    else if v.k = 7 then Lib.decDigits (v.n.toNat % 100) ++ [32, 48, 32, 82]
    else [110, 117, 108, 108]) := by cases v; rw [V.txt]
theorem fieldT_eq (q : ByteArray × V) : fieldT q = nameT q.1.data.toList ++ 32 :: q.2.txt := by cases q; rw [fieldT]
theorem sepsL_take : ∀ (l : List V) (j : Nat) (x : V), l[j]? = some x → sepsL (l.take (j + 1)) = sepsL (l.take j) ++ 32 :: x.txt
  | [], j, x, h => by simp at h
  | y :: l, 0, x, h => by simp at h; subst h; simp [sepsL]
  | y :: l, j + 1, x, h => by
    have := sepsL_take l j x (by simpa using h)
    rw [List.take_succ_cons, List.take_succ_cons, sepsL, sepsL, this, List.append_assoc]
theorem sepsF_take : ∀ (l : List (ByteArray × V)) (j : Nat) (q : ByteArray × V), l[j]? = some q → sepsF (l.take (j + 1)) = sepsF (l.take j) ++ 32 :: fieldT q
  | [], j, x, h => by simp at h
  | y :: l, 0, x, h => by simp at h; subst h; simp [sepsF]
  | y :: l, j + 1, x, h => by
    have := sepsF_take l j x (by simpa using h)
    rw [List.take_succ_cons, List.take_succ_cons, sepsF, sepsF, this, List.append_assoc]
theorem drop_seps {l : List V} {j : Nat} {x : V} (h : l[j]? = some x) : (sepsL (l.take (j + 1))).drop 1 = if j = 0 then x.txt else (sepsL (l.take j)).drop 1 ++ 32 :: x.txt := by
  rw [sepsL_take l j x h]
  by_cases hj : j = 0
  · subst hj; simp [sepsL]
  · rw [if_neg hj, List.drop_append_of_le_length]
    cases l with
    | nil => simp at h
    | cons y l =>
      obtain ⟨i, rfl⟩ : ∃ i, j = i + 1 := ⟨j - 1, by omega⟩
      rw [List.take_succ_cons, sepsL]; simp
theorem dec_small (n : Nat) (h : n < 100) : (Lib.decDigits n).length ≤ 2 := by
  by_cases h1 : n < 10
  · rw [Lib.decDigits_one h1]; simp
  · rw [dec_big h1, Lib.decDigits_one (by omega)]; simp
theorem sepsL_len : ∀ (l : List V), (∀ x ∈ l, x.txt.length + 1 ≤ 50 * x.bulk) → (sepsL l).length ≤ 50 * bulkL l
  | [], _ => by simp [sepsL]
  | y :: l, h => by
    have := sepsL_len l (fun x hx => h x (by simp [hx]))
    have := h y (by simp)
    rw [sepsL, bulkL]; simp; omega
theorem nameT_len (s : ByteArray) : (nameT s.data.toList).length ≤ 1 + 3 * s.size := by
  have := flatN_len s.data.toList
  have e : s.data.toList.length = s.size := by simp
  unfold nameT; simp at *; omega
theorem strT_len (s : ByteArray) : (strT s.data.toList).length ≤ 2 + 4 * s.size := by
  have := flat_len s.data.toList
  have e : s.data.toList.length = s.size := by simp
  unfold strT; simp at *; omega
theorem sepsF_len : ∀ (l : List (ByteArray × V)), (∀ q ∈ l, q.2.txt.length + 1 ≤ 50 * q.2.bulk) → (sepsF l).length ≤ 50 * bulkF l
  | [], _ => by simp [sepsF]
  | y :: l, h => by
    have := sepsF_len l (fun x hx => h x (by simp [hx]))
    have := h y (by simp)
    have := nameT_len y.1
    rw [sepsF, bulkF_cons, fieldT_eq]; simp; omega
theorem txtB_len (n : Int) : (txtB n).data.toList.length ≤ 40 := by
  cases h : okF n
  · rw [txtB_bad h]; simp
  · rw [txtB_ok h]; have := fixTxt_len n h; simpa using this
theorem txt_len (v : V) : v.txt.length + 1 ≤ 50 * v.bulk := by
  induction v using V.ind with
  | h v hl hf =>
    have a := sepsL_len v.l hl
    have b := sepsF_len v.f hf
    have c := nameT_len v.s
    have d := strT_len v.s
    have e := txtB_len v.n
    have g := dec_small (v.n.toNat % 100) (by omega)
    rw [txt_eq, bulk_eq']
    split
    · split <;> simp <;> omega
    split
    · omega
    split
    · omega
    split
    · omega
    split
    · simp; omega
    split
    · simp; omega
    split
    · simp; omega
    · simp; omega
theorem add_huge {x y z : List UInt8} (hx : x.length ≤ 8000000) (hy : y.length ≤ 8000000) (hz : z = x ++ y) (w : World) : (Op.stringOp .add ⟨x.toArray⟩ ⟨y.toArray⟩).run Tryz.prog w = .ok (.string ⟨z.toArray⟩) w := by
  rw [hz]; exact run_string_add_lists w x y (by omega) (by omega)
theorem nmOk_sizeV {s : ByteArray} (h : nmOk s = true) : s.size ≤ 200 := by
  by_cases hs : s.size ≤ 200
  · exact hs
  · rw [nmOk_len (by omega)] at h; cases h
theorem own_s {v : V} (h : Own v) : v.s.size ≤ 200 := by
  rcases h with h | h | h | h | h | h | h | h
  · omega
  · omega
  · omega
  · omega
  · exact nmOk_sizeV h.2.2.1
  · omega
  · omega
  · omega
theorem bulkL_shp : ∀ (l : List V), (∀ x ∈ l, x.bulk ≤ 402 * x.cnt) → bulkL l ≤ 402 * cntL l
  | [], _ => by simp [bulkL]
  | y :: l, h => by
    have := bulkL_shp l (fun x hx => h x (by simp [hx]))
    have := h y (by simp)
    rw [bulkL, cntL]; omega
/-- What may be is no more than its parts allow. -/
theorem bulk_shp (v : V) : v.Shp → v.bulk + 201 ≤ 402 * v.cnt := by
  induction v using V.ind with
  | h v hl hf =>
    intro hs
    have ho := (shp_eq v).1 hs
    have e1 := own_s ho.1
    have hL := (shpL_iff v.l).1 ho.2.1
    have hF := (shpF_iff v.f).1 ho.2.2
    have hN := own_names ho.1
    have a := bulkL_shp v.l (fun x hx => by
      obtain ⟨i, hi⟩ := List.getElem?_of_mem hx
      have := hl x hx (hL i x hi); omega)
    have b : ∀ (l : List (ByteArray × V)), (∀ q ∈ l, q.1.size ≤ 200 ∧ q.2.bulk + 201 ≤ 402 * q.2.cnt) → bulkF l ≤ 402 * cntF l := fun l => by
      induction l with
      | nil => intro _; simp [bulkF]
      | cons y l ih =>
        intro h
        have := ih (fun x hx => h x (by simp [hx]))
        have := h y (by simp)
        rw [bulkF_cons, cntF_cons]; omega
    have b' := b v.f (fun q hq => by
      obtain ⟨i, hi⟩ := List.getElem?_of_mem hq
      exact ⟨nmOk_sizeV (hN i q hi).1, hf q hq (hF i q hi)⟩)
    rw [bulk_eq', cnt_eq]; omega

end Go.Proofs.YtefbfgcbbpmhlabGreatDoor
