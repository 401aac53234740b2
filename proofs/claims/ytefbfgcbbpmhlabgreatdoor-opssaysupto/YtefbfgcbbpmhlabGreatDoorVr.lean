/-
  Joined: Vn, Vq, Vr.
-/
import Derived.Test.YtefbfgcbbpmhlabGreatDoorVm
import Derived.Test.YtefbfgcbbpmhlabGreatDoorQa
import Derived.BigRegion
import Derived.Deep.CutRange
import Derived.Test.YtefbfgcbbpmhlabGreatDoorAp
import Derived.Deep.RegionLaw
import Derived.Deep.DrawnRows

/-
  The document's own text of a name.
-/
namespace Go.Proofs.YtefbfgcbbpmhlabGreatDoor
open Go.RowKit
set_option maxRecDepth 100000

/-- Signs that stand in a name's text as digits. -/
def hardN (c : UInt8) : Bool := c == 40 || c == 41 || c == 60 || c == 62 || c == 91 || c == 93 || c == 123 || c == 125 || c == 47 || c == 37 || c == 35
/-- A byte in a name's text. -/
def escN (c : UInt8) : List UInt8 := if 32 < c.toNat ∧ c.toNat < 127 ∧ hardN c = false then [c] else [35, hexD (c.toNat / 16), hexD (c.toNat % 16)]
def nameT (s : List UInt8) : List UInt8 := 47 :: s.flatMap escN
theorem escN_len (c : UInt8) : (escN c).length ≤ 3 := by
  unfold escN; split <;> simp
theorem flatN_len (l : List UInt8) : (l.flatMap escN).length ≤ 3 * l.length := by
  induction l with
  | nil => simp
  | cons c l ih => have := escN_len c; rw [List.flatMap_cons, List.length_append, List.length_cons]; omega

theorem conv_newd {W : World} {xs : List UInt8} {cells : Array Value} {n c : Nat} {t : TypeId} (hc : cells = (xs.map byteV).toArray) (hn : xs.length = n) :
    (convert 149 9 (.slice (some ⟨W.heap.size, 0, none⟩) n c)).run Tryz.prog (W.alloc (.cells cells t)).drew = .ok (.string ⟨xs.toArray⟩) (W.alloc (.cells cells t)).drew := by
  subst hc
  refine conv_row hn fun k hk => ?_
  rw [Lib.add_plain]
  show (W.alloc _).cell? _ = _
  rw [World.cell?_alloc_new]
  simp [hk, byteV]
theorem hexD_tbl (a : Nat) (h : a < 16) : (⟨#[48, 49, 50, 51, 52, 53, 54, 55, 56, 57, 65, 66, 67, 68, 69, 70]⟩ : ByteArray)[a]'h = hexD a := by
  have : ∀ x : Fin 16, (⟨#[48, 49, 50, 51, 52, 53, 54, 55, 56, 57, 65, 66, 67, 68, 69, 70]⟩ : ByteArray)[x.1]'x.2 = hexD x.1 := by decide
  exact this ⟨a, h⟩
theorem u8_beq (c v : UInt8) : ((c.toNat : Int) == (v.toNat : Int)) = (c == v) := by
  rw [Bool.eq_iff_iff, beq_iff_eq, beq_iff_eq]
  exact ⟨fun h => UInt8.toNat_inj.1 (by omega), fun h => by rw [h]⟩
theorem hard_int (c : UInt8) : (((c.toNat : Int) == 40) || ((c.toNat : Int) == 41) || ((c.toNat : Int) == 60) || ((c.toNat : Int) == 62) || ((c.toNat : Int) == 91) || ((c.toNat : Int) == 93) || ((c.toNat : Int) == 123) || ((c.toNat : Int) == 125) || ((c.toNat : Int) == 47) || ((c.toNat : Int) == 37) || ((c.toNat : Int) == 35)) = hardN c := by
  unfold hardN
  rw [← u8_beq c 40, ← u8_beq c 41, ← u8_beq c 60, ← u8_beq c 62, ← u8_beq c 91, ← u8_beq c 93, ← u8_beq c 123, ← u8_beq c 125, ← u8_beq c 47, ← u8_beq c 37, ← u8_beq c 35]
  rfl
set_option maxHeartbeats 1000000 in
theorem nameText_says (s : ByteArray) (w : World) (hs : s.size ≤ 100000) :
    Calls Tryz.prog 138 #[.string s] w fun e w' => e = .returned (.string ⟨(nameT s.data.toList).toArray⟩) ∧ Below w.heap.size w w' := by
  go_enter Tryz.func138, Tryz.ntmps138
  go_wp2
  go_loopw [3, 4] (fun t i wr => ∃ k : Nat, i = .int .i64 k ∧ k ≤ s.size ∧ t = .string ⟨(47 :: (s.data.toList.take k).flatMap escN).toArray⟩ ∧ Below w.heap.size w wr) (fun _ i _ => s.size - (intOf i).toNat)
  case atStart => exact ⟨0, rfl, Nat.zero_le _, rfl, Below.refl _ _⟩
  case round =>
    obtain ⟨k, rfl, hk, rfl, hB⟩ := hrel
    have hfl := flatN_len (s.data.toList.take k)
    have hfl2 : ((s.data.toList.take k).flatMap escN).length ≤ 400000 := by
      have : (s.data.toList.take k).length ≤ s.size := by simp; omega
      omega
    clear hfl
    generalize hpre : (s.data.toList.take k).flatMap escN = pre at *
    have HPRE := hid hpre
    clear hpre
    by_cases hlt : k < s.size
    · have HT := hid (take_snoc s k hlt)
      have hc256 := s[k].toNat_lt
      have step : ∀ (xs : List UInt8), escN s[k] = xs → ∃ k' : Nat, Value.int .i64 ((k : Int) + 1) = .int .i64 k' ∧ k' ≤ s.size ∧ Value.string ⟨(47 :: (pre ++ xs)).toArray⟩ = .string ⟨(47 :: (s.data.toList.take k').flatMap escN).toArray⟩ ∧ s.size - k' < s.size - k := fun xs hx =>
        ⟨k + 1, by go_num, by omega, by rw [HT.out, List.flatMap_append, HPRE.out, List.flatMap_singleton, hx], by omega⟩
      have STEP := hid step
      clear step
      have HX := hid (hard_int s[k])
      go_upto_region 6 with fail
      go_cut [5, 6, 15] from 16 to 57 (fun c t c' wx => c = .int .u8 (s[k].toNat : Int) ∧ c' = .int .u8 (s[k].toNat : Int) ∧ t = .bool (hardN s[k]) ∧ wx = wr)
      case first =>
        go_wp2
        all_goals go_meet
        all_goals refine ⟨congrArg (Value.int .u8) (by omega), congrArg (Value.int .u8) (by omega), congrArg Value.bool ?_, rfl⟩
        all_goals rw [← HX.out, Bool.eq_iff_iff]
        all_goals simp
        all_goals omega
      case rest =>
        obtain ⟨rfl, rfl, rfl, rfl⟩ := hcut
        have ex : ∃ a b : Nat, (s[k].toNat : Int) / 16 = a ∧ (s[k].toNat : Int) % 16 = b ∧ a < 16 ∧ b < 16 ∧ s[k].toNat / 16 = a ∧ s[k].toNat % 16 = b := ⟨s[k].toNat / 16, s[k].toNat % 16, by omega, by omega, by omega, by omega, rfl, rfl⟩
        obtain ⟨a, b, ea, eb, la, lb, na, nb⟩ := ex
        have HAB := hid (And.intro na nb)
        clear na nb
        have la' : (a : Int) < 16 := by omega
        have lb' : (b : Int) < 16 := by omega
        cases hh : hardN s[k]
        · have HH := hid hh
          clear hh
          by_cases hp : 32 < (s[k].toNat : Int) ∧ (s[k].toNat : Int) < 127
          · obtain ⟨hp1, hp2⟩ := hp
            have HE := hid (show escN s[k] = [s[k]] by unfold escN; rw [if_pos ⟨by omega, by omega, HH.out⟩])
            have hcv := fun (W : World) (t : TypeId) => conv_new (W := W) (xs := [s[k]]) (cells := #[.int .u8 (s[k].toNat : Int)]) (n := 1) (c := 1) (t := t) (by simp [byteV]) rfl
            have ha := add_big (x := 47 :: pre) (y := [s[k]]) (z := 47 :: (pre ++ [s[k]])) (by simp; omega) (by simp) (by simp)
            go_wp2
            go_roundw
            case rel =>
              obtain ⟨k', e1, e2, e3, e4⟩ := STEP.out _ HE.out
              exact ⟨k', e1, e2, e3, hB.alloc hB.size _⟩
            case measure => simp [intOf]; omega
          · have HE := hid (show escN s[k] = [35, hexD a, hexD b] by unfold escN; rw [if_neg (by omega), HAB.out.1, HAB.out.2])
            have hcv := fun (W : World) (t : TypeId) => conv_newd (W := W) (xs := [35, hexD a, hexD b]) (cells := #[.int .u8 35, .int .u8 ((⟨#[48, 49, 50, 51, 52, 53, 54, 55, 56, 57, 65, 66, 67, 68, 69, 70]⟩ : ByteArray)[a].toNat : Int), .int .u8 ((⟨#[48, 49, 50, 51, 52, 53, 54, 55, 56, 57, 65, 66, 67, 68, 69, 70]⟩ : ByteArray)[b].toNat : Int)]) (n := 3) (c := 3) (t := t) (by rw [hexD_tbl a la, hexD_tbl b lb]; rfl) rfl
            have ha := add_big (x := 47 :: pre) (y := [35, hexD a, hexD b]) (z := 47 :: (pre ++ [35, hexD a, hexD b])) (by simp; omega) (by simp) (by simp)
            by_cases hp3 : 32 < (s[k].toNat : Int)
            all_goals
              first
                | have hp4 : ¬ (s[k].toNat : Int) < 127 := fun h => hp ⟨hp3, h⟩
                | skip
              clear hp
              go_wp2
              go_region
              all_goals go_wp2
              all_goals go_roundw
              case rel =>
                obtain ⟨k', e1, e2, e3, e4⟩ := STEP.out _ HE.out
                exact ⟨k', e1, e2, e3, (hB.alloc hB.size _).drew⟩
              case measure => simp [intOf]; omega
        · have HH := hid hh
          clear hh
          have HE := hid (show escN s[k] = [35, hexD a, hexD b] by unfold escN; rw [if_neg (by rw [HH.out]; simp), HAB.out.1, HAB.out.2])
          have hcv := fun (W : World) (t : TypeId) => conv_newd (W := W) (xs := [35, hexD a, hexD b]) (cells := #[.int .u8 35, .int .u8 ((⟨#[48, 49, 50, 51, 52, 53, 54, 55, 56, 57, 65, 66, 67, 68, 69, 70]⟩ : ByteArray)[a].toNat : Int), .int .u8 ((⟨#[48, 49, 50, 51, 52, 53, 54, 55, 56, 57, 65, 66, 67, 68, 69, 70]⟩ : ByteArray)[b].toNat : Int)]) (n := 3) (c := 3) (t := t) (by rw [hexD_tbl a la, hexD_tbl b lb]; rfl) rfl
          have ha := add_big (x := 47 :: pre) (y := [35, hexD a, hexD b]) (z := 47 :: (pre ++ [35, hexD a, hexD b])) (by simp; omega) (by simp) (by simp)
          by_cases hp3 : 32 < (s[k].toNat : Int)
          · by_cases hp4 : (s[k].toNat : Int) < 127
            all_goals
              go_wp2
              go_region
              all_goals go_wp2
              all_goals go_roundw
              case rel =>
                obtain ⟨k', e1, e2, e3, e4⟩ := STEP.out _ HE.out
                exact ⟨k', e1, e2, e3, (hB.alloc hB.size _).drew⟩
              case measure => simp [intOf]; omega
          · go_wp2
            go_region
            all_goals go_wp2
            all_goals go_roundw
            case rel =>
              obtain ⟨k', e1, e2, e3, e4⟩ := STEP.out _ HE.out
              exact ⟨k', e1, e2, e3, (hB.alloc hB.size _).drew⟩
            case measure => simp [intOf]; omega
    · have hke : k = s.size := by omega
      go_wp2
      go_ret
      refine ⟨ret_str ?_, hB⟩
      have := HPRE.out
      rw [hke, List.take_of_length_le (by simp)] at this
      unfold nameT
      rw [this]
end Go.Proofs.YtefbfgcbbpmhlabGreatDoor

/-
  The program's own text of a string: bytes behind bytes.
-/
namespace Go.Proofs.YtefbfgcbbpmhlabGreatDoor
open Go.RowKit
set_option maxRecDepth 100000

theorem octal (c : UInt8) (h : c.toNat < 32 ∨ 126 < c.toNat) : ∃ o : Nat → UInt8, escS c = [92, o 0, o 1, o 2] ∧ ((o 0).toNat : Int) = 48 + (c.toNat : Int) / 64 ∧ ((o 1).toNat : Int) = 48 + (c.toNat : Int) / 8 % 8 ∧ ((o 2).toNat : Int) = 48 + (c.toNat : Int) % 8 := by
  have hc := c.toNat_lt
  have hne : ¬ (c = 40 ∨ c = 41 ∨ c = 92) := by
    rintro (h | h | h) <;> (subst h; simp at *)
  refine ⟨fun k => if k = 0 then UInt8.ofNat (48 + c.toNat / 64) else if k = 1 then UInt8.ofNat (48 + c.toNat / 8 % 8) else UInt8.ofNat (48 + c.toNat % 8), ?_, ?_, ?_, ?_⟩
  · unfold escS; rw [if_neg hne, if_neg (by omega)]; rfl
  · simp; omega
  · simp; omega
  · simp; omega
set_option maxHeartbeats 1000000 in
theorem addString_says (s : ByteArray) (B : Nat) (sv : Value) (xs : List UInt8) (w : World) (hs : s.size ≤ 100000) (hown : Own8 w B sv xs) (hB : B ≤ w.heap.size) (hlim : xs.length ≤ 100000000) :
    Calls Tryz.prog 214 #[sv, .string s] w fun e w' => ∃ v', e = .returned v' ∧ Own8 w' B v' (xs ++ strT s.data.toList) ∧ Kept8 B w w' := by
  go_enter Tryz.func214, Tryz.ntmps214
  go_wp2_with (at_builtin; refine wpApp8 rfl (.tmp 8) (.tmp 9) rfl B _ xs rfl hown _ [40] 1 1 rfl rfl rfl (by omega) hB ?_)
  intro v1 w1 hown1 hk1
  go_wp2
  go_loopw [0, 13] (fun t i wr => ∃ k : Nat, i = .int .i64 k ∧ k ≤ s.size ∧ Own8 wr B t (xs ++ 40 :: (s.data.toList.take k).flatMap escS) ∧ Kept8 B w wr) (fun _ i _ => s.size - (intOf i).toNat)
  case atStart => exact ⟨0, rfl, Nat.zero_le _, by simpa using hown1, hk1⟩
  case round =>
    clear hown1 hk1 hown
    obtain ⟨k, rfl, hk, hown, hb⟩ := hrel
    have hbs := hb.size
    have hfl2 : ((s.data.toList.take k).flatMap escS).length ≤ 400000 := by
      have hfl := flat_len (s.data.toList.take k)
      have : (s.data.toList.take k).length ≤ s.size := by simp; omega
      omega
    generalize hpre : (s.data.toList.take k).flatMap escS = pre at *
    have HPR := hid hpre
    clear hpre
    by_cases hlt : k < s.size
    · have HT := hid (take_snoc s k hlt)
      have hc256 := s[k].toNat_lt
      by_cases hp1 : (s[k].toNat : Int) < 32
      · obtain ⟨o, ho, q0, q1, q2⟩ := octal s[k] (by omega)
        have HE := hid ho
        clear ho
        go_wp2_with (at_builtin; refine wpApp8 rfl (.tmp 30) (.tmp 31) rfl B _ _ rfl hown _ [92] 1 1 rfl rfl rfl (by simp; omega) (by omega) ?_)
        intro v2 w2 hown2 hk2
        have hb2 := hb.trans hk2
        clear hown hk2 hb
        go_wp2
        go_loopw [0, 33] (fun t i wq => ∃ m : Nat, i = .int .i64 m ∧ m ≤ 3 ∧ Own8 wq B t (xs ++ 40 :: pre ++ 92 :: (List.range m).map o) ∧ Kept8 B w wq) (fun _ i _ => 3 - (intOf i).toNat)
        case atStart => exact ⟨0, rfl, by omega, by simpa using hown2, hb2⟩
        case round =>
          clear hown2 hb2 hbs
          obtain ⟨m, rfl, hm, hown, hb⟩ := hrel
          have hbs := hb.size
          rcases (by omega : m = 0 ∨ m = 1 ∨ m = 2 ∨ m = 3) with rfl | rfl | rfl | rfl
          · go_wp2_with (at_builtin; refine wpApp8 rfl (.tmp 36) (.tmp 44) rfl B _ _ rfl hown _ [o 0] 1 1 rfl rfl ?cc (by simp; omega) (by omega) ?_)
            case cc => exact one8 (by omega)
            intro v3 w3 hown3 hk3
            have hb3 := hb.trans hk3
            clear hown hk3 hb
            go_wp2
            go_roundw
            case rel => exact ⟨1, by go_num, by omega, by simpa [List.range_succ] using hown3, hb3⟩
            case measure => simp [intOf]
          · go_wp2_with (at_builtin; refine wpApp8 rfl (.tmp 36) (.tmp 44) rfl B _ _ rfl hown _ [o 1] 1 1 rfl rfl ?cc (by simp; omega) (by omega) ?_)
            case cc => exact one8 (by omega)
            intro v3 w3 hown3 hk3
            have hb3 := hb.trans hk3
            clear hown hk3 hb
            go_wp2
            go_roundw
            case rel => exact ⟨2, by go_num, by omega, by simpa [List.range_succ] using hown3, hb3⟩
            case measure => simp [intOf]
          · go_wp2_with (at_builtin; refine wpApp8 rfl (.tmp 36) (.tmp 44) rfl B _ _ rfl hown _ [o 2] 1 1 rfl rfl ?cc (by simp; omega) (by omega) ?_)
            case cc => exact one8 (by omega)
            intro v3 w3 hown3 hk3
            have hb3 := hb.trans hk3
            clear hown hk3 hb
            go_wp2
            go_roundw
            case rel => exact ⟨3, by go_num, by omega, by simpa [List.range_succ] using hown3, hb3⟩
            case measure => simp [intOf]
          · go_wp2
            go_roundw
            case rel =>
              refine ⟨k + 1, by go_num, by omega, ?_, hb⟩
              rw [HT.out, List.flatMap_append, HPR.out, List.flatMap_singleton, HE.out]
              simpa [List.range_succ] using hown
            case measure => simp [intOf]; omega
      by_cases hp2 : (126 : Int) < (s[k].toNat : Int)
      · obtain ⟨o, ho, q0, q1, q2⟩ := octal s[k] (by omega)
        have HE := hid ho
        clear ho
        go_wp2_with (at_builtin; refine wpApp8 rfl (.tmp 30) (.tmp 31) rfl B _ _ rfl hown _ [92] 1 1 rfl rfl rfl (by simp; omega) (by omega) ?_)
        intro v2 w2 hown2 hk2
        have hb2 := hb.trans hk2
        clear hown hk2 hb
        go_wp2
        go_loopw [0, 33] (fun t i wq => ∃ m : Nat, i = .int .i64 m ∧ m ≤ 3 ∧ Own8 wq B t (xs ++ 40 :: pre ++ 92 :: (List.range m).map o) ∧ Kept8 B w wq) (fun _ i _ => 3 - (intOf i).toNat)
        case atStart => exact ⟨0, rfl, by omega, by simpa using hown2, hb2⟩
        case round =>
          clear hown2 hb2 hbs
          obtain ⟨m, rfl, hm, hown, hb⟩ := hrel
          have hbs := hb.size
          rcases (by omega : m = 0 ∨ m = 1 ∨ m = 2 ∨ m = 3) with rfl | rfl | rfl | rfl
          · go_wp2_with (at_builtin; refine wpApp8 rfl (.tmp 36) (.tmp 44) rfl B _ _ rfl hown _ [o 0] 1 1 rfl rfl ?cc (by simp; omega) (by omega) ?_)
            case cc => exact one8 (by omega)
            intro v3 w3 hown3 hk3
            have hb3 := hb.trans hk3
            clear hown hk3 hb
            go_wp2
            go_roundw
            case rel => exact ⟨1, by go_num, by omega, by simpa [List.range_succ] using hown3, hb3⟩
            case measure => simp [intOf]
          · go_wp2_with (at_builtin; refine wpApp8 rfl (.tmp 36) (.tmp 44) rfl B _ _ rfl hown _ [o 1] 1 1 rfl rfl ?cc (by simp; omega) (by omega) ?_)
            case cc => exact one8 (by omega)
            intro v3 w3 hown3 hk3
            have hb3 := hb.trans hk3
            clear hown hk3 hb
            go_wp2
            go_roundw
            case rel => exact ⟨2, by go_num, by omega, by simpa [List.range_succ] using hown3, hb3⟩
            case measure => simp [intOf]
          · go_wp2_with (at_builtin; refine wpApp8 rfl (.tmp 36) (.tmp 44) rfl B _ _ rfl hown _ [o 2] 1 1 rfl rfl ?cc (by simp; omega) (by omega) ?_)
            case cc => exact one8 (by omega)
            intro v3 w3 hown3 hk3
            have hb3 := hb.trans hk3
            clear hown hk3 hb
            go_wp2
            go_roundw
            case rel => exact ⟨3, by go_num, by omega, by simpa [List.range_succ] using hown3, hb3⟩
            case measure => simp [intOf]
          · go_wp2
            go_roundw
            case rel =>
              refine ⟨k + 1, by go_num, by omega, ?_, hb⟩
              rw [HT.out, List.flatMap_append, HPR.out, List.flatMap_singleton, HE.out]
              simpa [List.range_succ] using hown
            case measure => simp [intOf]; omega
      by_cases h40 : (s[k].toNat : Int) = 40
      · have HE := hid (show escS s[k] = [92, 40] by rw [u8_of (k := 40) h40]; rfl)
        go_wp2_with (at_builtin; refine wpApp8 rfl (.tmp 58) (.tmp 60) rfl B _ _ rfl hown _ [92, 40] 2 2 rfl rfl rfl (by simp; omega) (by omega) ?_)
        intro v2 w2 hown2 hk2
        have hb2 := hb.trans hk2
        clear hown hk2 hb
        go_wp2
        go_roundw
        case rel =>
          refine ⟨k + 1, by go_num, by omega, ?_, hb2⟩
          rw [HT.out, List.flatMap_append, HPR.out, List.flatMap_singleton, HE.out]
          simpa using hown2
        case measure => simp [intOf]; omega
      by_cases h41 : (s[k].toNat : Int) = 41
      · have HE := hid (show escS s[k] = [92, 41] by rw [u8_of (k := 41) h41]; rfl)
        go_wp2_with (at_builtin; refine wpApp8 rfl (.tmp 58) (.tmp 60) rfl B _ _ rfl hown _ [92, 41] 2 2 rfl rfl rfl (by simp; omega) (by omega) ?_)
        intro v2 w2 hown2 hk2
        have hb2 := hb.trans hk2
        clear hown hk2 hb
        go_wp2
        go_roundw
        case rel =>
          refine ⟨k + 1, by go_num, by omega, ?_, hb2⟩
          rw [HT.out, List.flatMap_append, HPR.out, List.flatMap_singleton, HE.out]
          simpa using hown2
        case measure => simp [intOf]; omega
      by_cases h92 : (s[k].toNat : Int) = 92
      · have HE := hid (show escS s[k] = [92, 92] by rw [u8_of (k := 92) h92]; rfl)
        go_wp2_with (at_builtin; refine wpApp8 rfl (.tmp 58) (.tmp 60) rfl B _ _ rfl hown _ [92, 92] 2 2 rfl rfl rfl (by simp; omega) (by omega) ?_)
        intro v2 w2 hown2 hk2
        have hb2 := hb.trans hk2
        clear hown hk2 hb
        go_wp2
        go_roundw
        case rel =>
          refine ⟨k + 1, by go_num, by omega, ?_, hb2⟩
          rw [HT.out, List.flatMap_append, HPR.out, List.flatMap_singleton, HE.out]
          simpa using hown2
        case measure => simp [intOf]; omega
      have hne : ¬ (s[k] = 40 ∨ s[k] = 41 ∨ s[k] = 92) := by
        rintro (h | h | h)
        · exact h40 (by rw [h]; rfl)
        · exact h41 (by rw [h]; rfl)
        · exact h92 (by rw [h]; rfl)
      have HE := hid (show escS s[k] = [s[k]] by unfold escS; rw [if_neg hne, if_pos (by omega)])
      clear hne
      have b40 : ((s[k].toNat : Int) == 40) = false := by simpa using h40
      have b41 : ((s[k].toNat : Int) == 41) = false := by simpa using h41
      have b92 : ((s[k].toNat : Int) == 92) = false := by simpa using h92
      go_wp2_with (at_builtin; refine wpApp8 rfl (.tmp 19) (.tmp 21) rfl B _ _ rfl hown _ [s[k]] 1 1 rfl rfl rfl (by simp; omega) (by omega) ?_)
      intro v2 w2 hown2 hk2
      have hb2 := hb.trans hk2
      clear hown hk2 hb
      go_wp2
      go_roundw
      case rel =>
        refine ⟨k + 1, by go_num, by omega, ?_, hb2⟩
        rw [HT.out, List.flatMap_append, HPR.out, List.flatMap_singleton, HE.out]
        simpa using hown2
      case measure => simp [intOf]; omega
    · have hke : k = s.size := by omega
      have HPE := hid (show strT s.data.toList = 40 :: pre ++ [41] by have := HPR.out; rw [hke, List.take_of_length_le (by simp)] at this; unfold strT; rw [this])
      go_wp2_with (at_builtin; refine wpApp8 rfl (.tmp 63) (.tmp 64) rfl B _ _ rfl hown _ [41] 1 1 rfl rfl rfl (by simp; omega) (by omega) ?_)
      intro v2 w2 hown2 hk2
      have hb2 := hb.trans hk2
      clear hown hk2 hb
      go_wp2
      go_ret
      refine ⟨v2, rfl, ?_, hb2⟩
      rw [HPE.out]
      simpa using hown2
end Go.Proofs.YtefbfgcbbpmhlabGreatDoor

/-
  The program's own text of a name.
-/
namespace Go.Proofs.YtefbfgcbbpmhlabGreatDoor
open Go.RowKit
set_option maxRecDepth 100000
attribute [local go_sem ↓] Go.wp_at_zero Go.wp_at_succ

theorem hard_contains (c : UInt8) : [40, 41, 60, 62, 91, 93, 123, 125, 47, 37, 35].contains c = hardN c := by
  unfold hardN; rw [Bool.eq_iff_iff]; simp [or_assoc]
theorem indexByte_hard (c : UInt8) : (0 ≤ Lib.indexByte [40, 41, 60, 62, 91, 93, 123, 125, 47, 37, 35] c) ↔ hardN c = true := by
  rw [← hard_contains]
  have h := indexByte_neg [40, 41, 60, 62, 91, 93, 123, 125, 47, 37, 35] c
  cases hh : [40, 41, 60, 62, 91, 93, 123, 125, 47, 37, 35].contains c
  · rw [hh] at h
    have := h.2 rfl
    exact iff_of_false (by omega) (by simp)
  · rw [hh] at h
    exact iff_of_true (by have : ¬ Lib.indexByte [40, 41, 60, 62, 91, 93, 123, 125, 47, 37, 35] c < 0 := fun h' => by cases h.1 h'
                          omega) rfl
theorem and15 (c : UInt8) : bits .and .u8 (c.toNat : Int) 15 = (c.toNat : Int) % 16 := by
  have h : ∀ x : Fin 256, bits .and .u8 (x.1 : Int) 15 = (x.1 : Int) % 16 := by decide
  exact h ⟨c.toNat, c.toNat_lt⟩

set_option maxHeartbeats 1000000 in
theorem addName_says (s : ByteArray) (B : Nat) (sv : Value) (xs : List UInt8) (w : World) (hs : s.size ≤ 100000) (hown : Own8 w B sv xs) (hB : B ≤ w.heap.size) (hlim : xs.length ≤ 100000000) :
    Calls Tryz.prog 215 #[sv, .string s] w fun e w' => ∃ v', e = .returned v' ∧ Own8 w' B v' (xs ++ nameT s.data.toList) ∧ Grew sv w v' w' := by
  go_enter Tryz.func215, Tryz.ntmps215
  go_wp2_with (at_builtin; refine wpApp8g rfl (.tmp 7) (.tmp 8) rfl B _ xs rfl (hown.alloc _) w.heap.size [47] 1 1 rfl (0, 0) rfl _ rfl (heap_alloc_new _ _) (by omega) (by simp; omega) ?_)
  intro v1 w1 hown1 hk1
  replace hk1 := hk1.unalloc
  go_wp2
  go_loopw [0, 12] (fun t i wr => ∃ k : Nat, i = .int .i64 k ∧ k ≤ s.size ∧ Own8 wr B t (xs ++ 47 :: (s.data.toList.take k).flatMap escN) ∧ Grew sv w t wr) (fun _ i _ => s.size - (intOf i).toNat)
  case atStart => exact ⟨0, rfl, Nat.zero_le _, by simpa using hown1, hk1⟩
  case round =>
    clear hown1 hk1 hown
    obtain ⟨k, rfl, hk, hown, hb⟩ := hrel
    have hbs := hb.size
    have hfl2 : ((s.data.toList.take k).flatMap escN).length ≤ 400000 := by
      have hfl := flatN_len (s.data.toList.take k)
      have : (s.data.toList.take k).length ≤ s.size := by simp; omega
      omega
    generalize hpre : (s.data.toList.take k).flatMap escN = pre at *
    have HPR := hid hpre
    clear hpre
    by_cases hlt : k < s.size
    · have HT := hid (take_snoc s k hlt)
      have hc256 := s[k].toNat_lt
      have ex : ∃ a b : Nat, (s[k].toNat : Int) / 16 = a ∧ (s[k].toNat : Int) % 16 = b ∧ a < 16 ∧ b < 16 ∧ s[k].toNat / 16 = a ∧ s[k].toNat % 16 = b := ⟨s[k].toNat / 16, s[k].toNat % 16, by omega, by omega, by omega, by omega, rfl, rfl⟩
      obtain ⟨a, b, ea, eb, la, lb, na, nb⟩ := ex
      have HAB := hid (And.intro na nb)
      clear na nb
      have la' : (a : Int) < 16 := by omega
      have lb' : (b : Int) < 16 := by omega
      have h15 : bits .and .u8 (s[k].toNat : Int) 15 = (b : Int) := by rw [and15, eb]
      have HX := hid (indexByte_hard s[k])
      go_upto_region 6 with fail
      go_cut [5, 6, 28] from 18 to 28 (fun i c t wx => i = .int .i64 k ∧ c = .int .u8 (s[k].toNat : Int) ∧ t = .bool (!(decide (32 < s[k].toNat ∧ s[k].toNat < 127 ∧ hardN s[k] = false))) ∧ wx = wr)
      case first =>
        by_cases h33 : (s[k].toNat : Int) < 33
        · go_wp2_with fail
          go_meet
          exact ⟨rfl, rfl, congrArg Value.bool (by simp; omega), rfl⟩
        by_cases h126 : (126 : Int) < s[k].toNat
        · go_wp2_with fail
          go_meet
          exact ⟨rfl, rfl, congrArg Value.bool (by simp; omega), rfl⟩
        go_wp2_with (go_at_call 230; refine (Tryz.strings_IndexByte _ _ _).mono ?_; rintro e w1 ⟨rfl, rfl⟩)
        go_meet
        refine ⟨rfl, rfl, congrArg Value.bool ?_, rfl⟩
        have := HX.out
        rw [Bool.eq_iff_iff]
        simp only [decide_eq_true_eq, Bool.not_eq_true', decide_eq_false_iff_not]
        rw [this]
        cases hardN s[k]
        · exact iff_of_false (by simp) (fun h => h ⟨by omega, by omega, rfl⟩)
        · exact iff_of_true rfl (fun h => by cases h.2.2)
      case rest =>
        obtain ⟨rfl, rfl, rfl, rfl⟩ := hcut
        by_cases hp : 32 < s[k].toNat ∧ s[k].toNat < 127 ∧ hardN s[k] = false
        · have HE := hid (show escN s[k] = [s[k]] by unfold escN; rw [if_pos hp])
          have hd : decide (32 < s[k].toNat ∧ s[k].toNat < 127 ∧ hardN s[k] = false) = true := decide_eq_true hp
          clear hp
          rw [hd]
          go_wp2_with (at_builtin; refine wpApp8g rfl (.tmp 38) (.tmp 40) rfl B _ _ rfl (hown.alloc _) wc.heap.size [s[k]] 1 1 rfl (0, 0) rfl _ rfl (heap_alloc_new _ _) (by simp; omega) (by simp; omega) ?_)
          intro v2 w2 hown2 hk2
          have hb2 := hb.trans hk2.unalloc
          clear hown hk2 hb
          go_wp2
          go_roundw
          case rel =>
            refine ⟨k + 1, by go_num, by omega, ?_, hb2⟩
            rw [HT.out, List.flatMap_append, HPR.out, List.flatMap_singleton, HE.out]
            simpa using hown2
          case measure => simp [intOf]; omega
        · have HE := hid (show escN s[k] = [35, hexD a, hexD b] by unfold escN; rw [if_neg hp, HAB.out.1, HAB.out.2])
          have hd : decide (32 < s[k].toNat ∧ s[k].toNat < 127 ∧ hardN s[k] = false) = false := decide_eq_false hp
          clear hp
          rw [hd]
          go_wp2_with fail
          go_region_law ((refine stepApp8g (by rfl) (.tmp 29) (.tmp 36) (by rfl) B _ (xs ++ 47 :: pre) (by rfl) (by exact hown.alloc _) wc.heap.size [35, hexD a, hexD b] 3 3 (by rfl) (0, 0) (by rfl) _ (by rw [← hexD_tbl a la, ← hexD_tbl b lb]) (by exact heap_alloc_new _ _) (by simp; omega) (by simp; omega) ?_; intro v2 w2 hown2 hk2))
          all_goals
            have hb2 := hb.trans hk2.undrew.unalloc
            clear hown hk2 hb
            go_wp2
            go_roundw
            case rel =>
              refine ⟨k + 1, by go_num, by omega, ?_, hb2⟩
              rw [HT.out, List.flatMap_append, HPR.out, List.flatMap_singleton, HE.out]
              simpa using hown2
            case measure => simp [intOf]; omega
    · have hke : k = s.size := by omega
      have HPE := hid (show nameT s.data.toList = 47 :: pre by have := HPR.out; rw [hke, List.take_of_length_le (by simp)] at this; unfold nameT; rw [this])
      go_wp2
      go_ret
      refine ⟨_, rfl, ?_, hb⟩
      rw [HPE.out]
      exact hown
end Go.Proofs.YtefbfgcbbpmhlabGreatDoor
