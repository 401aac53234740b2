/-
  Joined: Fs, Vm, Vn.
-/
import Derived.Test.YtefbfgcbbpmhlabGreatDoorRf
import Derived.Test.YtefbfgcbbpmhlabGreatDoorYc
import Derived.Test.YtefbfgcbbpmhlabGreatDoorQa
import Derived.BigRegion
import Derived.Deep.CutRange

/-
  The walks of the law FixSays, for every two numbers and every text.
-/
namespace Go.Proofs.YtefbfgcbbpmhlabGreatDoor
open Go.RowKit
set_option maxRecDepth 100000

theorem fixText_rdy (m n : Int) (w : World) (hr : Rdy m w) (h : okF n = true) :
    Calls Tryz.prog 136 #[.int .i64 n] w fun e w' => e = .returned (.string ⟨(fixTxt n).toArray⟩) ∧ Below w.heap.size w w' ∧ Rdy m w' := by
  refine (fixText_any n w h).mono ?_
  rintro e w' ⟨rfl, hb⟩
  exact ⟨rfl, hb, hr.below hb⟩
theorem parseE_nn (l : List UInt8) : 0 ≤ parseE l := by unfold parseE; split <;> (try split) <;> omega
theorem addE_01 (a b : Int) : 0 ≤ addE a b ∧ addE a b ≤ 1 := by unfold addE; split <;> omega
theorem okm1500 : okF (-1500) = true := rfl
theorem txtm1500 : txtB (-1500) = ⟨#[45, 49, 46, 53]⟩ := by rw [txtB_ok rfl, text_m1500]
theorem fltm1500 : flt (-1500) = 0 := rfl

theorem chain5 {a b c d e f : World} (h1 : Below a.heap.size a b) (h2 : Below b.heap.size b c) (h3 : Below c.heap.size c d) (h4 : Below d.heap.size d e) (h5 : Below e.heap.size e f) : Below a.heap.size a f := chain2 (chain4 h1 h2 h3 h4) h5
end Go.Proofs.YtefbfgcbbpmhlabGreatDoor

/-
  The document's own texts of strings and names.
-/
namespace Go.Proofs.YtefbfgcbbpmhlabGreatDoor
open Go.RowKit
set_option maxRecDepth 100000

/-- A byte in a string's text. -/
def escS (c : UInt8) : List UInt8 := if c = 40 ∨ c = 41 ∨ c = 92 then [92, c] else if 32 ≤ c.toNat ∧ c.toNat < 127 then [c] else [92, UInt8.ofNat (48 + c.toNat / 64), UInt8.ofNat (48 + c.toNat / 8 % 8), UInt8.ofNat (48 + c.toNat % 8)]
def strT (s : List UInt8) : List UInt8 := 40 :: s.flatMap escS ++ [41]
theorem conv_new {W : World} {xs : List UInt8} {cells : Array Value} {n c : Nat} {t : TypeId} (hc : cells = (xs.map byteV).toArray) (hn : xs.length = n) :
    (convert 149 9 (.slice (some ⟨W.heap.size, 0, none⟩) n c)).run Tryz.prog (W.alloc (.cells cells t)) = .ok (.string ⟨xs.toArray⟩) (W.alloc (.cells cells t)) := by
  subst hc
  refine conv_row hn fun k hk => ?_
  rw [Lib.add_plain, World.cell?_alloc_new]
  simp [hk, byteV]
theorem escS_len (c : UInt8) : (escS c).length ≤ 4 := by
  unfold escS; split
  · simp
  · split <;> simp
theorem flat_len (l : List UInt8) : (l.flatMap escS).length ≤ 4 * l.length := by
  induction l with
  | nil => simp
  | cons c l ih => have := escS_len c; rw [List.flatMap_cons, List.length_append, List.length_cons]; omega
theorem u8_of {c : UInt8} {k : UInt8} (h : (c.toNat : Int) = (k.toNat : Int)) : c = k := UInt8.toNat_inj.1 (by omega)

theorem add_big {x y z : List UInt8} (hx : x.length ≤ 1000000) (hy : y.length ≤ 1000000) (hz : z = x ++ y) (w : World) : (Op.stringOp .add ⟨x.toArray⟩ ⟨y.toArray⟩).run Tryz.prog w = .ok (.string ⟨z.toArray⟩) w := by
  rw [hz]; exact run_string_add_lists w x y (by omega) (by omega)
set_option maxHeartbeats 1000000 in
theorem strText_says (s : ByteArray) (w : World) (hs : s.size ≤ 100000) :
    Calls Tryz.prog 137 #[.string s] w fun e w' => e = .returned (.string ⟨(strT s.data.toList).toArray⟩) ∧ Below w.heap.size w w' := by
  go_enter Tryz.func137, Tryz.ntmps137
  go_wp2
  go_loopw [3, 4] (fun t i wr => ∃ k : Nat, i = .int .i64 k ∧ k ≤ s.size ∧ t = .string ⟨(40 :: (s.data.toList.take k).flatMap escS).toArray⟩ ∧ Below w.heap.size w wr) (fun _ i _ => s.size - (intOf i).toNat)
  case atStart => exact ⟨0, rfl, Nat.zero_le _, rfl, Below.refl _ _⟩
  case round =>
    obtain ⟨k, rfl, hk, rfl, hB⟩ := hrel
    have hfl := flat_len (s.data.toList.take k)
    have hfl2 : ((s.data.toList.take k).flatMap escS).length ≤ 400000 := by
      have : (s.data.toList.take k).length ≤ s.size := by simp; omega
      omega
    clear hfl
    generalize hpre : (s.data.toList.take k).flatMap escS = pre at *
    have HPRE := hid hpre
    clear hpre
    by_cases hlt : k < s.size
    · have HT := hid (take_snoc s k hlt)
      have hc256 := s[k].toNat_lt
      have step : ∀ (xs : List UInt8), escS s[k] = xs → ∃ k' : Nat, Value.int .i64 ((k : Int) + 1) = .int .i64 k' ∧ k' ≤ s.size ∧ Value.string ⟨(40 :: (pre ++ xs)).toArray⟩ = .string ⟨(40 :: (s.data.toList.take k').flatMap escS).toArray⟩ ∧ s.size - k' < s.size - k := fun xs hx =>
        ⟨k + 1, by go_num, by omega, by rw [HT.out, List.flatMap_append, HPRE.out, List.flatMap_singleton, hx], by omega⟩
      have STEP := hid step
      clear step
      by_cases h40 : (s[k].toNat : Int) = 40
      · have HE := hid (show escS s[k] = [92, 40] by rw [u8_of (k := 40) h40]; rfl)
        have hcv := fun (W : World) (t : TypeId) => conv_new (W := W) (xs := [92, 40]) (cells := #[.int .u8 92, .int .u8 40]) (n := 2) (c := 2) (t := t) (by simp [byteV]) rfl
        have ha := add_big (x := 40 :: pre) (y := [92, 40]) (z := 40 :: (pre ++ [92, 40])) (by simp; omega) (by simp) (by simp)
        go_wp2
        go_roundw
        case rel =>
          obtain ⟨k', e1, e2, e3, e4⟩ := STEP.out _ HE.out
          exact ⟨k', e1, e2, e3, hB.alloc hB.size _⟩
        case measure => simp [intOf]; omega
      by_cases h41 : (s[k].toNat : Int) = 41
      · have HE := hid (show escS s[k] = [92, 41] by rw [u8_of (k := 41) h41]; rfl)
        have hcv := fun (W : World) (t : TypeId) => conv_new (W := W) (xs := [92, 41]) (cells := #[.int .u8 92, .int .u8 41]) (n := 2) (c := 2) (t := t) (by simp [byteV]) rfl
        have ha := add_big (x := 40 :: pre) (y := [92, 41]) (z := 40 :: (pre ++ [92, 41])) (by simp; omega) (by simp) (by simp)
        go_wp2
        go_roundw
        case rel =>
          obtain ⟨k', e1, e2, e3, e4⟩ := STEP.out _ HE.out
          exact ⟨k', e1, e2, e3, hB.alloc hB.size _⟩
        case measure => simp [intOf]; omega
      by_cases h92 : (s[k].toNat : Int) = 92
      · have HE := hid (show escS s[k] = [92, 92] by rw [u8_of (k := 92) h92]; rfl)
        have hcv := fun (W : World) (t : TypeId) => conv_new (W := W) (xs := [92, 92]) (cells := #[.int .u8 92, .int .u8 92]) (n := 2) (c := 2) (t := t) (by simp [byteV]) rfl
        have ha := add_big (x := 40 :: pre) (y := [92, 92]) (z := 40 :: (pre ++ [92, 92])) (by simp; omega) (by simp) (by simp)
        go_wp2
        go_roundw
        case rel =>
          obtain ⟨k', e1, e2, e3, e4⟩ := STEP.out _ HE.out
          exact ⟨k', e1, e2, e3, hB.alloc hB.size _⟩
        case measure => simp [intOf]; omega
      have hne : ¬ (s[k] = 40 ∨ s[k] = 41 ∨ s[k] = 92) := by
        rintro (h | h | h)
        · exact h40 (by rw [h]; rfl)
        · exact h41 (by rw [h]; rfl)
        · exact h92 (by rw [h]; rfl)
      have HNE := hid hne
      clear hne
      have b40 : ((s[k].toNat : Int) == 40) = false := by simpa using h40
      have b41 : ((s[k].toNat : Int) == 41) = false := by simpa using h41
      have b92 : ((s[k].toNat : Int) == 92) = false := by simpa using h92
      by_cases hp : 32 ≤ (s[k].toNat : Int) ∧ (s[k].toNat : Int) < 127
      · obtain ⟨hp1, hp2⟩ := hp
        have HE := hid (show escS s[k] = [s[k]] by unfold escS; rw [if_neg HNE.out, if_pos (by omega)])
        have hcv := fun (W : World) (t : TypeId) => conv_new (W := W) (xs := [s[k]]) (cells := #[.int .u8 (s[k].toNat : Int)]) (n := 1) (c := 1) (t := t) (by simp [byteV]) rfl
        have ha := add_big (x := 40 :: pre) (y := [s[k]]) (z := 40 :: (pre ++ [s[k]])) (by simp; omega) (by simp) (by simp)
        go_wp2
        go_roundw
        case rel =>
          obtain ⟨k', e1, e2, e3, e4⟩ := STEP.out _ HE.out
          exact ⟨k', e1, e2, e3, hB.alloc hB.size _⟩
        case measure => simp [intOf]; omega
      · have ex : ∃ o1 o2 o3 : UInt8, escS s[k] = [92, o1, o2, o3] ∧ (o1.toNat : Int) = 48 + (s[k].toNat : Int) / 64 ∧ (o2.toNat : Int) = 48 + (s[k].toNat : Int) / 8 % 8 ∧ (o3.toNat : Int) = 48 + (s[k].toNat : Int) % 8 :=
          ⟨_, _, _, by unfold escS; rw [if_neg HNE.out, if_neg (by omega)], by simp; omega, by simp; omega, by simp; omega⟩
        obtain ⟨o1, o2, o3, he, q1, q2, q3⟩ := ex
        have HE := hid he
        have hcv := fun (W : World) (t : TypeId) => conv_new (W := W) (xs := [92, o1, o2, o3]) (cells := #[.int .u8 92, .int .u8 (48 + (s[k].toNat : Int) / 64), .int .u8 (48 + (s[k].toNat : Int) / 8 % 8), .int .u8 (48 + (s[k].toNat : Int) % 8)]) (n := 4) (c := 4) (t := t) (by rw [← q1, ← q2, ← q3]; rfl) rfl
        have ha := add_big (x := 40 :: pre) (y := [92, o1, o2, o3]) (z := 40 :: (pre ++ [92, o1, o2, o3])) (by simp; omega) (by simp) (by simp)
        clear he q1 q2 q3
        by_cases hp3 : 32 ≤ (s[k].toNat : Int)
        all_goals
          first
            | have hp4 : ¬ (s[k].toNat : Int) < 127 := fun h => hp ⟨hp3, h⟩
            | skip
          clear hp
          go_wp2
          go_roundw
          case rel =>
            obtain ⟨k', e1, e2, e3, e4⟩ := STEP.out _ HE.out
            exact ⟨k', e1, e2, e3, hB.alloc hB.size _⟩
          case measure => simp [intOf]; omega
    · have hke : k = s.size := by omega
      have ha := add_big (x := 40 :: pre) (y := [41]) (z := 40 :: pre ++ [41]) (by simp; omega) (by simp) (by simp)
      go_wp2
      go_ret
      refine ⟨ret_str ?_, hB⟩
      have := HPRE.out
      rw [hke, List.take_of_length_le (by simp)] at this
      unfold strT
      rw [this]
      try rw [ba_append]
      rfl
end Go.Proofs.YtefbfgcbbpmhlabGreatDoor

/-
  The document's own text of a name.
-/
namespace Go.Proofs.YtefbfgcbbpmhlabGreatDoor
open Go.RowKit
set_option maxRecDepth 100000

/-- Signs that stand in a name's text as digits. -/
def hardN (c : UInt8) : Bool := c == 40 || c == 41 || c == 60 || c == 62 || c == 91 || c == 93 || c == 123 || c == 125 || c == 47 || c == 37 || c == 35
/-- A byte in a name's text. -/
def escN (c : UInt8) : List UInt8 := if 32 < c.toNat ∧ c.toNat < 127 ∧ hardN c = false then [c] else [35, hexD (c.toNat / 16), hexD (c.toNat % 16)]
def nameT (s : List UInt8) : List UInt8 := 47 :: s.flatMap escN
theorem escN_len (c : UInt8) : (escN c).length ≤ 3 := by
  unfold escN; split <;> simp
theorem flatN_len (l : List UInt8) : (l.flatMap escN).length ≤ 3 * l.length := by
  induction l with
  | nil => simp
  | cons c l ih => have := escN_len c; rw [List.flatMap_cons, List.length_append, List.length_cons]; omega

theorem conv_newd {W : World} {xs : List UInt8} {cells : Array Value} {n c : Nat} {t : TypeId} (hc : cells = (xs.map byteV).toArray) (hn : xs.length = n) :
    (convert 149 9 (.slice (some ⟨W.heap.size, 0, none⟩) n c)).run Tryz.prog (W.alloc (.cells cells t)).drew = .ok (.string ⟨xs.toArray⟩) (W.alloc (.cells cells t)).drew := by
  subst hc
  refine conv_row hn fun k hk => ?_
  rw [Lib.add_plain]
  show (W.alloc _).cell? _ = _
  rw [World.cell?_alloc_new]
  simp [hk, byteV]
theorem hexD_tbl (a : Nat) (h : a < 16) : (⟨#[48, 49, 50, 51, 52, 53, 54, 55, 56, 57, 65, 66, 67, 68, 69, 70]⟩ : ByteArray)[a]'h = hexD a := by
  have : ∀ x : Fin 16, (⟨#[48, 49, 50, 51, 52, 53, 54, 55, 56, 57, 65, 66, 67, 68, 69, 70]⟩ : ByteArray)[x.1]'x.2 = hexD x.1 := by decide
  exact this ⟨a, h⟩
theorem u8_beq (c v : UInt8) : ((c.toNat : Int) == (v.toNat : Int)) = (c == v) := by
  rw [Bool.eq_iff_iff, beq_iff_eq, beq_iff_eq]
  exact ⟨fun h => UInt8.toNat_inj.1 (by omega), fun h => by rw [h]⟩
theorem hard_int (c : UInt8) : (((c.toNat : Int) == 40) || ((c.toNat : Int) == 41) || ((c.toNat : Int) == 60) || ((c.toNat : Int) == 62) || ((c.toNat : Int) == 91) || ((c.toNat : Int) == 93) || ((c.toNat : Int) == 123) || ((c.toNat : Int) == 125) || ((c.toNat : Int) == 47) || ((c.toNat : Int) == 37) || ((c.toNat : Int) == 35)) = hardN c := by
  unfold hardN
  rw [← u8_beq c 40, ← u8_beq c 41, ← u8_beq c 60, ← u8_beq c 62, ← u8_beq c 91, ← u8_beq c 93, ← u8_beq c 123, ← u8_beq c 125, ← u8_beq c 47, ← u8_beq c 37, ← u8_beq c 35]
  rfl
set_option maxHeartbeats 1000000 in
theorem nameText_says (s : ByteArray) (w : World) (hs : s.size ≤ 100000) :
    Calls Tryz.prog 138 #[.string s] w fun e w' => e = .returned (.string ⟨(nameT s.data.toList).toArray⟩) ∧ Below w.heap.size w w' := by
  go_enter Tryz.func138, Tryz.ntmps138
  go_wp2
  go_loopw [3, 4] (fun t i wr => ∃ k : Nat, i = .int .i64 k ∧ k ≤ s.size ∧ t = .string ⟨(47 :: (s.data.toList.take k).flatMap escN).toArray⟩ ∧ Below w.heap.size w wr) (fun _ i _ => s.size - (intOf i).toNat)
  case atStart => exact ⟨0, rfl, Nat.zero_le _, rfl, Below.refl _ _⟩
  case round =>
    obtain ⟨k, rfl, hk, rfl, hB⟩ := hrel
    have hfl := flatN_len (s.data.toList.take k)
    have hfl2 : ((s.data.toList.take k).flatMap escN).length ≤ 400000 := by
      have : (s.data.toList.take k).length ≤ s.size := by simp; omega
      omega
    clear hfl
    generalize hpre : (s.data.toList.take k).flatMap escN = pre at *
    have HPRE := hid hpre
    clear hpre
    by_cases hlt : k < s.size
    · have HT := hid (take_snoc s k hlt)
      have hc256 := s[k].toNat_lt
      have step : ∀ (xs : List UInt8), escN s[k] = xs → ∃ k' : Nat, Value.int .i64 ((k : Int) + 1) = .int .i64 k' ∧ k' ≤ s.size ∧ Value.string ⟨(47 :: (pre ++ xs)).toArray⟩ = .string ⟨(47 :: (s.data.toList.take k').flatMap escN).toArray⟩ ∧ s.size - k' < s.size - k := fun xs hx =>
        ⟨k + 1, by go_num, by omega, by rw [HT.out, List.flatMap_append, HPRE.out, List.flatMap_singleton, hx], by omega⟩
      have STEP := hid step
      clear step
      have HX := hid (hard_int s[k])
      go_upto_region 6 with fail
      go_cut [5, 6, 15] from 16 to 57 (fun c t c' wx => c = .int .u8 (s[k].toNat : Int) ∧ c' = .int .u8 (s[k].toNat : Int) ∧ t = .bool (hardN s[k]) ∧ wx = wr)
      case first =>
        go_wp2
        all_goals go_meet
        all_goals refine ⟨congrArg (Value.int .u8) (by omega), congrArg (Value.int .u8) (by omega), congrArg Value.bool ?_, rfl⟩
        all_goals rw [← HX.out, Bool.eq_iff_iff]
        all_goals simp
        all_goals omega
      case rest =>
        obtain ⟨rfl, rfl, rfl, rfl⟩ := hcut
        have ex : ∃ a b : Nat, (s[k].toNat : Int) / 16 = a ∧ (s[k].toNat : Int) % 16 = b ∧ a < 16 ∧ b < 16 ∧ s[k].toNat / 16 = a ∧ s[k].toNat % 16 = b := ⟨s[k].toNat / 16, s[k].toNat % 16, by omega, by omega, by omega, by omega, rfl, rfl⟩
        obtain ⟨a, b, ea, eb, la, lb, na, nb⟩ := ex
        have HAB := hid (And.intro na nb)
        clear na nb
        have la' : (a : Int) < 16 := by omega
        have lb' : (b : Int) < 16 := by omega
        cases hh : hardN s[k]
        · have HH := hid hh
          clear hh
          by_cases hp : 32 < (s[k].toNat : Int) ∧ (s[k].toNat : Int) < 127
          · obtain ⟨hp1, hp2⟩ := hp
            have HE := hid (show escN s[k] = [s[k]] by unfold escN; rw [if_pos ⟨by omega, by omega, HH.out⟩])
            have hcv := fun (W : World) (t : TypeId) => conv_new (W := W) (xs := [s[k]]) (cells := #[.int .u8 (s[k].toNat : Int)]) (n := 1) (c := 1) (t := t) (by simp [byteV]) rfl
            have ha := add_big (x := 47 :: pre) (y := [s[k]]) (z := 47 :: (pre ++ [s[k]])) (by simp; omega) (by simp) (by simp)
            go_wp2
            go_roundw
            case rel =>
              obtain ⟨k', e1, e2, e3, e4⟩ := STEP.out _ HE.out
              exact ⟨k', e1, e2, e3, hB.alloc hB.size _⟩
            case measure => simp [intOf]; omega
          · have HE := hid (show escN s[k] = [35, hexD a, hexD b] by unfold escN; rw [if_neg (by omega), HAB.out.1, HAB.out.2])
            have hcv := fun (W : World) (t : TypeId) => conv_newd (W := W) (xs := [35, hexD a, hexD b]) (cells := #[.int .u8 35, .int .u8 ((⟨#[48, 49, 50, 51, 52, 53, 54, 55, 56, 57, 65, 66, 67, 68, 69, 70]⟩ : ByteArray)[a].toNat : Int), .int .u8 ((⟨#[48, 49, 50, 51, 52, 53, 54, 55, 56, 57, 65, 66, 67, 68, 69, 70]⟩ : ByteArray)[b].toNat : Int)]) (n := 3) (c := 3) (t := t) (by rw [hexD_tbl a la, hexD_tbl b lb]; rfl) rfl
            have ha := add_big (x := 47 :: pre) (y := [35, hexD a, hexD b]) (z := 47 :: (pre ++ [35, hexD a, hexD b])) (by simp; omega) (by simp) (by simp)
            by_cases hp3 : 32 < (s[k].toNat : Int)
            all_goals
              first
                | have hp4 : ¬ (s[k].toNat : Int) < 127 := fun h => hp ⟨hp3, h⟩
                | skip
              clear hp
              go_wp2
              go_region
              all_goals go_wp2
              all_goals go_roundw
              case rel =>
                obtain ⟨k', e1, e2, e3, e4⟩ := STEP.out _ HE.out
                exact ⟨k', e1, e2, e3, (hB.alloc hB.size _).drew⟩
              case measure => simp [intOf]; omega
        · have HH := hid hh
          clear hh
          have HE := hid (show escN s[k] = [35, hexD a, hexD b] by unfold escN; rw [if_neg (by rw [HH.out]; simp), HAB.out.1, HAB.out.2])
          have hcv := fun (W : World) (t : TypeId) => conv_newd (W := W) (xs := [35, hexD a, hexD b]) (cells := #[.int .u8 35, .int .u8 ((⟨#[48, 49, 50, 51, 52, 53, 54, 55, 56, 57, 65, 66, 67, 68, 69, 70]⟩ : ByteArray)[a].toNat : Int), .int .u8 ((⟨#[48, 49, 50, 51, 52, 53, 54, 55, 56, 57, 65, 66, 67, 68, 69, 70]⟩ : ByteArray)[b].toNat : Int)]) (n := 3) (c := 3) (t := t) (by rw [hexD_tbl a la, hexD_tbl b lb]; rfl) rfl
          have ha := add_big (x := 47 :: pre) (y := [35, hexD a, hexD b]) (z := 47 :: (pre ++ [35, hexD a, hexD b])) (by simp; omega) (by simp) (by simp)
          by_cases hp3 : 32 < (s[k].toNat : Int)
          · by_cases hp4 : (s[k].toNat : Int) < 127
            all_goals
              go_wp2
              go_region
              all_goals go_wp2
              all_goals go_roundw
              case rel =>
                obtain ⟨k', e1, e2, e3, e4⟩ := STEP.out _ HE.out
                exact ⟨k', e1, e2, e3, (hB.alloc hB.size _).drew⟩
              case measure => simp [intOf]; omega
          · go_wp2
            go_region
            all_goals go_wp2
            all_goals go_roundw
            case rel =>
              obtain ⟨k', e1, e2, e3, e4⟩ := STEP.out _ HE.out
              exact ⟨k', e1, e2, e3, (hB.alloc hB.size _).drew⟩
            case measure => simp [intOf]; omega
    · have hke : k = s.size := by omega
      go_wp2
      go_ret
      refine ⟨ret_str ?_, hB⟩
      have := HPRE.out
      rw [hke, List.take_of_length_le (by simp)] at this
      unfold nameT
      rw [this]
end Go.Proofs.YtefbfgcbbpmhlabGreatDoor
