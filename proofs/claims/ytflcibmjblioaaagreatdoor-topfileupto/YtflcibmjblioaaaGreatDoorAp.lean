/-
  Joined: Ya, Yb, Ap.
-/
import Derived.Test.YtflcibmjblioaaaGreatDoorPa
import Derived.Test.YtflcibmjblioaaaGreatDoorRc
import Derived.Deep.QuietTactic
import Derived.BigQuiet
import Derived.Deep.RegionWith
import Derived.BigRegion
import Derived.Deep.CutRange
import Derived.Test.YtflcibmjblioaaaGreatDoorFc
import Derived.Test.YtflcibmjblioaaaGreatDoorMh
import Derived.Lib.OthersKept
import Derived.Lib.AppendStr
import Derived.Maps.AppendAt
import Derived.RegionTactic

/-
  The program's reader: its small steps.
-/
namespace Go.Proofs.YtflcibmjblioaaaGreatDoor
open Go.RowKit
set_option maxRecDepth 100000

/-- A reader in memory: its text, and how far it has come. -/
def RdAt (w : World) (P : Nat) (s : ByteArray) (k : Nat) : Prop := At w P 104 #[.string s, .int .i64 k]
/-- It has come that far; all else is as it was. -/
structure Moved (P : Nat) (w w' : World) (s : ByteArray) (k : Nat) : Prop where
  keep : KeepBut P w w'
  at_ : RdAt w' P s k
theorem RdAt.c0 {w : World} {P : Nat} {s : ByteArray} {k : Nat} (h : RdAt w P s k) : w.cell? ⟨P, 0, none⟩ = some (.string s) := At.cell h 0
theorem RdAt.c1 {w : World} {P : Nat} {s : ByteArray} {k : Nat} (h : RdAt w P s k) : w.cell? ⟨P, 1, none⟩ = some (.int .i64 k) := At.cell h 1
theorem RdAt.set {w : World} {P : Nat} {s : ByteArray} {k : Nat} (h : RdAt w P s k) (j : Nat) : RdAt (w.setCell ⟨P, 1, none⟩ (.int .i64 j)) P s j :=
  heap_setCell_same w P 1 _ _ (.int .i64 j) h
theorem RdAt.set' {w : World} {P : Nat} {s : ByteArray} {k : Nat} (h : RdAt w P s k) {i : Int} {j : Nat} (e : i = j) : RdAt (w.setCell ⟨P, 1, none⟩ (.int .i64 i)) P s j := by
  subst e; exact h.set j
theorem RdAt.drewN {w : World} {P : Nat} {s : ByteArray} {k : Nat} (h : RdAt w P s k) (n : Nat) : RdAt (w.drewN n) P s k := by
  induction n with
  | zero => exact h
  | succ n ih => exact ih
theorem Moved.refl {P : Nat} {w : World} {s : ByteArray} {k : Nat} (h : RdAt w P s k) : Moved P w w s k := ⟨KeepBut.refl _ _, h⟩
theorem Moved.trans {P : Nat} {a b c : World} {s : ByteArray} {k j : Nat} (h : Moved P a b s k) (g : Moved P b c s j) : Moved P a c s j := ⟨h.keep.trans g.keep, g.at_⟩
theorem Moved.drewN {P : Nat} {a b : World} {s : ByteArray} {k : Nat} (h : Moved P a b s k) (n : Nat) : Moved P a (b.drewN n) s k := ⟨h.keep.drewN n, h.at_.drewN n⟩
theorem Moved.drew {P : Nat} {a b : World} {s : ByteArray} {k : Nat} (h : Moved P a b s k) : Moved P a b.drew s k := ⟨h.keep.drew, h.at_⟩
theorem Moved.set {P : Nat} {a b : World} {s : ByteArray} {k : Nat} (h : Moved P a b s k) {i : Int} {j : Nat} (e : i = j) : Moved P a (b.setCell ⟨P, 1, none⟩ (.int .i64 i)) s j := ⟨h.keep.set 1 _, h.at_.set' e⟩
theorem place_in {s : ByteArray} {k : Nat} (h : k ≤ s.size) : place s (k : Int) = k := by unfold place; omega
theorem skipL_le : ∀ (l : List UInt8) (b : Bool), skipL l b ≤ l.length
  | [], _ => by simp [skipL]
  | c :: r, b => by
    unfold skipL
    split
    · simp
    · have := skipL_le r (c == 37 || (b && c != 10 && c != 13)); simp; omega
theorem skipP_le {s : ByteArray} {k : Nat} (h : k ≤ s.size) : k ≤ skipP s k ∧ skipP s k ≤ s.size := by
  unfold skipP
  have := skipL_le (s.data.toList.drop k) false
  simp at this
  omega
theorem pSkipN (s : ByteArray) (k : Nat) (w : World) (hk : k ≤ s.size) (hs : s.size ≤ 100000) :
    Calls Tryz.prog 47 #[.string s, .int .i64 k] w fun e w' => e = .returned (.int .i64 (skipP s k : Nat)) ∧ w' = w := by
  have q := pSkip s k w (by unfold maxLen; omega)
  rw [place_in hk] at q; exact q
theorem pWordN (s : ByteArray) (k : Nat) (w : World) (hk : k ≤ s.size) (hs : s.size ≤ 100000) :
    Calls Tryz.prog 48 #[.string s, .int .i64 k] w fun e w' => e = .returned (.string (wordP s k)) ∧ w' = w := by
  have q := pWord s k w (by unfold maxLen; omega)
  rw [place_in hk] at q; exact q
/-- What skipping tells: 5 at the end. -/
def skipE (s : ByteArray) (k : Nat) : Int := if skipP s k = s.size then 5 else 0
set_option maxHeartbeats 1000000 in
theorem yAhead (P : Nat) (s p : ByteArray) (k : Nat) (w : World) (hR : RdAt w P s k) (hk : k ≤ s.size) :
    Calls Tryz.prog 88 #[.pointer (some ⟨P, 0, none⟩), .string p] w fun e w' => e = .returned (.bool (Lib.hasPrefix (s.data.toList.drop k) p.data.toList)) ∧ Moved P w w' s k := by
  have c0 := hR.c0
  have c1 := hR.c1
  have hk0 : (0 : Int) ≤ k := by omega
  have hk1 : (k : Int) ≤ s.size := by omega
  have HX := hid (fun (w : World) => Tryz.strings_HasPrefix (s.extract k s.size) p w)
  go_enter Tryz.func88, Tryz.ntmps88
  go_wp2
  go_quiet ((go_at_call 19; exact Calls.quiet_of_same (HX.out _)))
  go_wp2
  go_ret
  refine ⟨ret_bool ?_, (Moved.refl hR).drewN _⟩
  have e : (s.extract k s.size).data.toList = s.data.toList.drop k := by
    rw [ByteArray.data_extract, Array.toList_extract, List.extract_eq_take_drop, List.take_of_length_le (by simp)]
  rw [e]
set_option maxHeartbeats 1000000 in
theorem ySkip (P : Nat) (s : ByteArray) (k : Nat) (w : World) (hR : RdAt w P s k) (hk : k ≤ s.size) (hs : s.size ≤ 100000) :
    Calls Tryz.prog 87 #[.pointer (some ⟨P, 0, none⟩)] w fun e w' => e = .returned (errN (skipE s k)) ∧ Moved P w w' s (skipP s k) := by
  have c0 := hR.c0
  have c1 := hR.c1
  have f1 := At.free hR 1
  have hkl := skipP_le hk
  have HP := hid (fun (w : World) => pSkipN s k w hk hs)
  have HE := hid (show skipE s k = if skipP s k = s.size then 5 else 0 from rfl)
  generalize skipP s k = j at *
  by_cases hj : j = s.size
  · have HE5 := hid (show skipE s k = 5 by rw [HE.out, if_pos hj])
    have hj' : ((j : Int) == (s.size : Int)) = true := by rw [hj]; simp
    go_enter Tryz.func87, Tryz.ntmps87
    go_wp2
    go_region_with (go_at_call 47; refine (HP.out _).mono ?_; rintro e w1 ⟨rfl, rfl⟩)
    all_goals
      go_wp2
      go_quiet (fail)
      go_wp2
      go_ret
      exact ⟨by rw [HE5.out]; rfl, by first | exact ((Moved.refl hR).set (by omega)).drewN _ | exact ((Moved.refl hR).set (by omega)).drew.drewN _⟩
  · have HE5 := hid (show skipE s k = 0 by rw [HE.out, if_neg hj])
    have hj' : ((j : Int) == (s.size : Int)) = false := by simpa using (show ¬ (j : Int) = s.size by omega)
    go_enter Tryz.func87, Tryz.ntmps87
    go_wp2
    go_region_with (go_at_call 47; refine (HP.out _).mono ?_; rintro e w1 ⟨rfl, rfl⟩)
    all_goals
      go_wp2
      go_quiet (fail)
      go_wp2
      go_ret
      exact ⟨by rw [HE5.out]; rfl, by first | exact ((Moved.refl hR).set (by omega)).drewN _ | exact ((Moved.refl hR).set (by omega)).drew.drewN _⟩
theorem wordL_le (l : List UInt8) : wordL l ≤ l.length := by
  unfold wordL; exact (List.takeWhile_sublist _).length_le
theorem wordP_size {s : ByteArray} {k : Nat} (h : k ≤ s.size) : (wordP s k).size = wordL (s.data.toList.drop k) ∧ k + (wordP s k).size ≤ s.size := by
  have := wordL_le (s.data.toList.drop k)
  simp at this
  unfold wordP
  rw [ByteArray.size_extract]
  omega
set_option maxHeartbeats 1000000 in
theorem yWord (P : Nat) (s : ByteArray) (k : Nat) (w : World) (hR : RdAt w P s k) (hk : k ≤ s.size) (hs : s.size ≤ 100000) :
    Calls Tryz.prog 139 #[.pointer (some ⟨P, 0, none⟩)] w fun e w' => e = .returned (.string (wordP s k)) ∧ Moved P w w' s (k + (wordP s k).size) := by
  have c0 := hR.c0
  have c1 := hR.c1
  have f1 := At.free hR 1
  have hz := (wordP_size hk).2
  have HP := hid (fun (w : World) => pWordN s k w hk hs)
  generalize wordP s k = ww at *
  go_enter Tryz.func139, Tryz.ntmps139
  go_wp2
  go_quiet ((go_at_call 48; exact Calls.quiet_of_same (HP.out _)))
  go_wp2
  go_ret
  exact ⟨rfl, ((Moved.refl hR).drewN _).set (by omega)⟩
set_option maxHeartbeats 1000000 in
theorem yTakeEnd (P : Nat) (s : ByteArray) (w : World) (hR : RdAt w P s s.size) :
    Calls Tryz.prog 142 #[.pointer (some ⟨P, 0, none⟩)] w fun e w' => e = .returned (.tuple #[.int .u8 0, .iface 50 (.int .i64 5)]) ∧ Moved P w w' s s.size := by
  have c0 := hR.c0
  have c1 := hR.c1
  go_enter Tryz.func142, Tryz.ntmps142
  go_wp2
  go_quiet (fail)
  go_wp2
  go_ret2
  exact ⟨rfl, (Moved.refl hR).drewN _⟩
set_option maxHeartbeats 1000000 in
theorem yTake (P : Nat) (s : ByteArray) (k : Nat) (w : World) (hR : RdAt w P s k) (hk : k < s.size) (hs : s.size ≤ 100000) :
    Calls Tryz.prog 142 #[.pointer (some ⟨P, 0, none⟩)] w fun e w' => e = .returned (.tuple #[.int .u8 (s[k].toNat : Int), .nilIface]) ∧ Moved P w w' s (k + 1) := by
  have c0 := hR.c0
  have c1 := hR.c1
  have f1 := At.free hR 1
  have hk0 : (0 : Int) ≤ k := by omega
  have hk1 : (k : Int) < s.size := by omega
  have hne : ((k : Int) == (s.size : Int)) = false := by simpa using (show ¬ (k : Int) = s.size by omega)
  go_enter Tryz.func142, Tryz.ntmps142
  go_wp2
  go_quiet (fail)
  go_wp2
  go_quiet (fail)
  go_wp2
  go_ret2
  exact ⟨rfl, ((Moved.refl hR).drewN _).set (by omega)⟩
end Go.Proofs.YtflcibmjblioaaaGreatDoor

/-
  The program's reader: pairs of digits, ends, digits to the base 8.
-/
namespace Go.Proofs.YtflcibmjblioaaaGreatDoor
open Go.RowKit
set_option maxRecDepth 100000

def pairL : List UInt8 → Option UInt8
  | x :: y :: _ => if hexV x < 0 ∨ hexV y < 0 then none else some (UInt8.ofNat (16 * (hexV x).toNat + (hexV y).toNat))
  | _ => none
theorem pairL_cons (x y : UInt8) (r : List UInt8) : pairL (x :: y :: r) = if hexV x < 0 ∨ hexV y < 0 then none else some (UInt8.ofNat (16 * (hexV x).toNat + (hexV y).toNat)) := rfl
theorem toList_at {t : ByteArray} (h : 1 < t.size) : ∃ r, t.data.toList = t[0] :: t[1] :: r := by
  refine ⟨t.data.toList.drop 2, ?_⟩
  rw [show t.data.toList = t.data.toList.drop 0 from rfl, List.drop_eq_getElem_cons (i := 0) (by simp; omega), List.drop_eq_getElem_cons (i := 1) (by simpa using h)]; rfl
theorem toList_one {t : ByteArray} (h : t.size = 1) : t.data.toList = [t[0]] := by
  rw [show t.data.toList = t.data.toList.drop 0 from rfl, List.drop_eq_getElem_cons (i := 0) (by simp; omega), List.drop_of_length_le (by simp; omega)]; rfl
theorem toList_none {t : ByteArray} (h : t.size = 0) : t.data.toList = [] := List.eq_nil_of_length_eq_zero (by simpa using h)
theorem pairL_no {t : ByteArray} (h : t.size < 2) : pairL t.data.toList = none := by
  by_cases h0 : t.size = 0
  · rw [toList_none h0]; rfl
  · rw [toList_one (by omega)]; rfl
theorem pHexK (c : UInt8) (n h : Int) (hn : n = (c.toNat : Int)) (hh : hexV c = h) (w : World) :
    Calls Tryz.prog 148 #[.int .u8 n] w fun e w' => e = .returned (.int .i64 h) ∧ w' = w := by
  subst hn; subst hh; exact pHex c w
def pairV : Option UInt8 → Value
  | none => .tuple #[.int .u8 0, .bool false]
  | some c => .tuple #[.int .u8 (c.toNat : Int), .bool true]
set_option maxHeartbeats 1000000 in
theorem yPair (t : ByteArray) (w : World) (ht : t.size ≤ 100000) :
    Calls Tryz.prog 140 #[.string t] w fun e w' => e = .returned (pairV (pairL t.data.toList)) ∧ w' = w := by
  by_cases h0 : t.size = 0
  · have HP := hid (pairL_no (t := t) (by omega))
    have h0' : (t.size : Int) = 0 := by omega
    go_enter Tryz.func140, Tryz.ntmps140
    go_wp2
    go_loop [4, 6] (fun n i => n = .int .i64 0 ∧ i = .int .i64 0) (fun _ _ => 0)
    case atStart => exact ⟨rfl, rfl⟩
    case round =>
      obtain ⟨rfl, rfl⟩ := hrel
      go_wp2
      go_ret2
      exact ⟨by rw [HP.out]; rfl, rfl⟩
  · have hx0 : 0 < t.size := by omega
    have hx0' : (0 : Int) < t.size := by omega
    have z0 : ((0 : Int) == (t.size : Int)) = false := by simpa using (show ¬ (0 : Int) = t.size by omega)
    have hr0 := hexV_rng t[0]
    obtain ⟨a, ha⟩ : ∃ a, hexV t[0] = a := ⟨_, rfl⟩
    have HA := hid ha
    rw [ha] at hr0
    clear ha
    by_cases ha0 : a < 0
    · have HP := hid (show pairL t.data.toList = none by
        by_cases h1 : 1 < t.size
        · obtain ⟨r, hr⟩ := toList_at h1
          rw [hr]; rw [pairL_cons, if_pos (.inl (by rw [HA.out]; exact ha0))]
        · exact pairL_no (by omega))
      go_enter Tryz.func140, Tryz.ntmps140
      go_wp2
      go_loop [4, 6] (fun n i => n = .int .i64 0 ∧ i = .int .i64 0) (fun _ _ => 0)
      case atStart => exact ⟨rfl, rfl⟩
      case round =>
        obtain ⟨rfl, rfl⟩ := hrel
        go_wp2_with (go_at_call 148; refine (pHexK t[0] _ a rfl HA.out _).mono ?_; rintro e w1 ⟨rfl, rfl⟩)
        go_ret2
        exact ⟨by rw [HP.out]; rfl, rfl⟩
    · by_cases h1 : t.size = 1
      · have HP := hid (pairL_no (t := t) (by omega))
        have h1' : (t.size : Int) = 1 := by omega
        go_enter Tryz.func140, Tryz.ntmps140
        go_wp2
        go_loop [4, 6] (fun n i => (n = .int .i64 0 ∧ i = .int .i64 0) ∨ (n = .int .i64 a ∧ i = .int .i64 1)) (fun _ i => 2 - (intOf i).toNat)
        case atStart => exact .inl ⟨rfl, rfl⟩
        case round =>
          rcases hrel with ⟨rfl, rfl⟩ | ⟨rfl, rfl⟩
          · go_wp2_with (go_at_call 148; refine (pHexK t[0] _ a rfl HA.out _).mono ?_; rintro e w1 ⟨rfl, rfl⟩)
            go_round
            case rel => exact .inr ⟨rfl, rfl⟩
            case measure => simp [intOf]
          · go_wp2
            go_ret2
            exact ⟨by rw [HP.out]; rfl, rfl⟩
      · have hx1 : 1 < t.size := by omega
        have hx1' : (1 : Int) < t.size := by omega
        have z1 : ((1 : Int) == (t.size : Int)) = false := by simpa using (show ¬ (1 : Int) = t.size by omega)
        have hr1 := hexV_rng t[1]
        obtain ⟨b, hb⟩ : ∃ b, hexV t[1] = b := ⟨_, rfl⟩
        have HB := hid hb
        rw [hb] at hr1
        clear hb
        obtain ⟨r, hr⟩ := toList_at hx1
        have HL := hid hr
        clear hr
        by_cases hb0 : b < 0
        · have HP := hid (show pairL t.data.toList = none by
            rw [HL.out]; rw [pairL_cons, if_pos (.inr (by rw [HB.out]; exact hb0))])
          go_enter Tryz.func140, Tryz.ntmps140
          go_wp2
          go_loop [4, 6] (fun n i => (n = .int .i64 0 ∧ i = .int .i64 0) ∨ (n = .int .i64 a ∧ i = .int .i64 1)) (fun _ i => 2 - (intOf i).toNat)
          case atStart => exact .inl ⟨rfl, rfl⟩
          case round =>
            rcases hrel with ⟨rfl, rfl⟩ | ⟨rfl, rfl⟩
            · go_wp2_with (go_at_call 148; refine (pHexK t[0] _ a rfl HA.out _).mono ?_; rintro e w1 ⟨rfl, rfl⟩)
              go_round
              case rel => exact .inr ⟨rfl, rfl⟩
              case measure => simp [intOf]
            · go_wp2_with (go_at_call 148; refine (pHexK t[1] _ b rfl HB.out _).mono ?_; rintro e w1 ⟨rfl, rfl⟩)
              go_ret2
              exact ⟨by rw [HP.out]; rfl, rfl⟩
        · have HP := hid (show pairL t.data.toList = some (UInt8.ofNat (16 * a.toNat + b.toNat)) by
            rw [HL.out]; rw [pairL_cons, HA.out, HB.out, if_neg (by omega)])
          have hq : ((UInt8.ofNat (16 * a.toNat + b.toNat)).toNat : Int) = 16 * a + b := by simp only [UInt8.toNat_ofNat']; omega
          go_enter Tryz.func140, Tryz.ntmps140
          go_wp2
          go_loop [4, 6] (fun n i => (n = .int .i64 0 ∧ i = .int .i64 0) ∨ (n = .int .i64 a ∧ i = .int .i64 1) ∨ (n = .int .i64 (16 * a + b) ∧ i = .int .i64 2)) (fun _ i => 2 - (intOf i).toNat)
          case atStart => exact .inl ⟨rfl, rfl⟩
          case round =>
            rcases hrel with ⟨rfl, rfl⟩ | ⟨rfl, rfl⟩ | ⟨rfl, rfl⟩
            · go_wp2_with (go_at_call 148; refine (pHexK t[0] _ a rfl HA.out _).mono ?_; rintro e w1 ⟨rfl, rfl⟩)
              go_round
              case rel => exact .inr (.inl ⟨rfl, rfl⟩)
              case measure => simp [intOf]
            · go_wp2_with (go_at_call 148; refine (pHexK t[1] _ b rfl HB.out _).mono ?_; rintro e w1 ⟨rfl, rfl⟩)
              go_round
              case rel => exact .inr (.inr ⟨by go_num, rfl⟩)
              case measure => simp [intOf]
            · go_wp2
              go_ret2
              refine ⟨?_, rfl⟩
              rw [HP.out]
              show _ = Ending.returned (.tuple #[.int .u8 ((UInt8.ofNat (16 * a.toNat + b.toNat)).toNat : Int), .bool true])
              rw [hq]
              rfl
theorem ySkipEnd (P : Nat) (s : ByteArray) (k : Nat) (w : World) (hR : RdAt w P s k) (hk : k ≤ s.size) (hs : s.size ≤ 100000) (h : skipP s k = s.size) :
    Calls Tryz.prog 87 #[.pointer (some ⟨P, 0, none⟩)] w fun e w' => e = .returned (.iface 50 (.int .i64 5)) ∧ Moved P w w' s s.size := by
  have q := ySkip P s k w hR hk hs
  rw [show skipE s k = 5 by unfold skipE; rw [if_pos h], h] at q; exact q
theorem ySkipOk (P : Nat) (s : ByteArray) (k : Nat) (w : World) (hR : RdAt w P s k) (hk : k ≤ s.size) (hs : s.size ≤ 100000) (h : ¬ skipP s k = s.size) :
    Calls Tryz.prog 87 #[.pointer (some ⟨P, 0, none⟩)] w fun e w' => e = .returned .nilIface ∧ Moved P w w' s (skipP s k) := by
  have q := ySkip P s k w hR hk hs
  rw [show skipE s k = 0 by unfold skipE; rw [if_neg h]] at q; exact q
theorem yAheadB (P : Nat) (s p : ByteArray) (k : Nat) (b : Bool) (w : World) (hR : RdAt w P s k) (hk : k ≤ s.size) (hb : Lib.hasPrefix (s.data.toList.drop k) p.data.toList = b) :
    Calls Tryz.prog 88 #[.pointer (some ⟨P, 0, none⟩), .string p] w fun e w' => e = .returned (.bool b) ∧ Moved P w w' s k := by
  subst hb; exact yAhead P s p k w hR hk
/-- How an end was looked for: an error's number, is it there, and how far it came. -/
def endsR (s p : ByteArray) (k : Nat) : Int × Bool × Nat :=
  if skipP s k = s.size then (5, false, s.size) else if Lib.hasPrefix (s.data.toList.drop (skipP s k)) p.data.toList then (0, true, skipP s k + p.size) else (0, false, skipP s k)
set_option maxHeartbeats 1000000 in
theorem yEnds (P : Nat) (s p : ByteArray) (k : Nat) (w : World) (hR : RdAt w P s k) (hk : k ≤ s.size) (hs : s.size ≤ 100000) (hp : p.size ≤ 100) :
    Calls Tryz.prog 144 #[.pointer (some ⟨P, 0, none⟩), .string p] w fun e w' => e = .returned (.tuple #[.bool (endsR s p k).2.1, errN (endsR s p k).1]) ∧ Moved P w w' s (endsR s p k).2.2 := by
  have hkl := skipP_le hk
  by_cases he : skipP s k = s.size
  · have HE := hid (show endsR s p k = (5, false, s.size) by unfold endsR; rw [if_pos he])
    go_enter Tryz.func144, Tryz.ntmps144
    go_wp2_with (go_at_call 87; refine (ySkipEnd P s k _ hR hk hs he).mono ?_; rintro e w1 ⟨rfl, hm⟩)
    go_ret2
    rw [HE.out]
    exact ⟨rfl, hm⟩
  · have HNE := hid he
    clear he
    cases hb : Lib.hasPrefix (s.data.toList.drop (skipP s k)) p.data.toList
    · have HE := hid (show endsR s p k = (0, false, skipP s k) by unfold endsR; rw [if_neg HNE.out, hb]; rfl)
      have HB := hid hb
      go_enter Tryz.func144, Tryz.ntmps144
      go_wp2_with (first
        | (go_at_call 87; refine (ySkipOk P s k _ hR hk hs HNE.out).mono ?_; rintro e w1 ⟨rfl, hm⟩)
        | (go_at_call 88; refine (yAheadB P s p (skipP s k) false _ hm.at_ hkl.2 HB.out).mono ?_; rintro e w2 ⟨rfl, hm2⟩))
      go_ret2
      rw [HE.out]
      exact ⟨rfl, hm.trans hm2⟩
    · have HE := hid (show endsR s p k = (0, true, skipP s k + p.size) by unfold endsR; rw [if_neg HNE.out, hb]; rfl)
      have HB := hid hb
      go_enter Tryz.func144, Tryz.ntmps144
      go_wp2_with (first
        | (go_at_call 87; refine (ySkipOk P s k _ hR hk hs HNE.out).mono ?_; rintro e w1 ⟨rfl, hm⟩)
        | (go_at_call 88; refine (yAheadB P s p (skipP s k) true _ hm.at_ hkl.2 HB.out).mono ?_; rintro e w2 ⟨rfl, hm2⟩; have c1 := hm2.at_.c1; have f1 := At.free hm2.at_ 1))
      go_ret2
      rw [HE.out]
      exact ⟨rfl, (hm.trans hm2).set (j := skipP s k + p.size) (by omega)⟩
end Go.Proofs.YtflcibmjblioaaaGreatDoor

/-
  Bytes that a call owns: what appending to them does, and what it leaves alone.
-/
namespace Go.Proofs.YtflcibmjblioaaaGreatDoor
open Go.RowKit
set_option maxRecDepth 100000

/-- Bytes that a call owns. -/
def Own8 (w : World) (B : Nat) (v : Value) (xs : List UInt8) : Prop := w.ownsRow B 5 1 v xs.length (xs.map byteV)
/-- All else is as it was. -/
structure Kept8 (B : Nat) (w w' : World) : Prop where
  below : Below B w w'
  others : Lib.OthersKept 5 none w w'
theorem Kept8.refl (B : Nat) (w : World) : Kept8 B w w := ⟨Below.refl _ _, Lib.OthersKept.refl _ _ _⟩
theorem Kept8.trans {B : Nat} {a b c : World} (h : Kept8 B a b) (k : Kept8 B b c) : Kept8 B a c := ⟨h.below.trans k.below, h.others.trans k.others⟩
theorem Kept8.alloc {B : Nat} {a b : World} (h : Kept8 B a b) (hB : B ≤ b.heap.size) (o : Obj) : Kept8 B a (b.alloc o) := ⟨h.below.alloc hB o, h.others.alloc o⟩
theorem Kept8.drew {B : Nat} {a b : World} (h : Kept8 B a b) : Kept8 B a b.drew := ⟨h.below.drew, h.others.drew⟩
theorem Kept8.size {B : Nat} {a b : World} (h : Kept8 B a b) : a.heap.size ≤ b.heap.size := h.below.size
theorem Kept8.at {B : Nat} {a w : World} (h : Kept8 B a w) {b : Nat} {t : TypeId} {cs : Array Value} (ht : t ≠ 5) (ha : At a b t cs) : At w b t cs :=
  h.others b _ ha (by simp) (fun c fz e => by cases e; exact ht rfl)
theorem Kept8.of_below {B : Nat} {w w' : World} (h : Below w.heap.size w w') (hB : B ≤ w.heap.size) : Kept8 B w w' :=
  ⟨h.mono hB, fun k _ hk _ _ => (h.block k (Array.getElem?_eq_some_iff.1 hk).1).trans hk⟩
theorem Own8.nil (w : World) (B : Nat) : Own8 w B (.slice none 0 0) [] := World.ownsRow_nil _ _ _ _
theorem Own8.alloc {w : World} {B : Nat} {v : Value} {xs : List UInt8} (h : Own8 w B v xs) (o : Obj) : Own8 (w.alloc o) B v xs := World.ownsRow.alloc h o
theorem Own8.drew {w : World} {B : Nat} {v : Value} {xs : List UInt8} (h : Own8 w B v xs) : Own8 w.drew B v xs := h
theorem own8_kind {w : World} {B : Nat} {v : Value} {xs : List UInt8} (h : Own8 w B v xs) : ∀ g, v.ownBlock = some g → ∃ c fz, w.heap[g]? = some (.cells c 5 fz) := by
  intro g hg
  rcases World.ownsRow.lt h g hg with ⟨h1, h2⟩
  rcases h.2 with ⟨rfl, _⟩ | ⟨g', cap, cur, rfl, _, hgg, _⟩
  · simp [Value.ownBlock] at hg
  · simp [Value.ownBlock] at hg
    subst hg
    exact ⟨cur, _, hgg⟩
theorem kept8_grown {w w' : World} {B : Nat} {v : Value} {xs : List UInt8} (h : Own8 w B v xs) (hB : B ≤ w.heap.size) (hg : w.grownBy w' v.ownBlock) : Kept8 B w w' :=
  ⟨(Below.refl _ _).grown hg hB (fun q hq => (World.ownsRow.lt h q hq).1), (Lib.OthersKept.refl _ _ _).grown hg (own8_kind h)⟩

/-- What an appending did: all but the row's own block, as it was; where the row lies now. -/
structure Grew (v : Value) (w : World) (v' : Value) (w' : World) : Prop where
  by_ : w.grownBy w' v.ownBlock
  at_ : v'.ownBlock = v.ownBlock ∨ ∃ g, v'.ownBlock = some g ∧ w.heap.size ≤ g
theorem Grew.refl (v : Value) (w : World) : Grew v w v w := ⟨⟨rfl, rfl, rfl, Nat.le_refl _, fun _ _ _ => rfl⟩, .inl rfl⟩
theorem Grew.size {v v' : Value} {w w' : World} (h : Grew v w v' w') : w.heap.size ≤ w'.heap.size := h.by_.size
theorem Grew.ahead {v v' : Value} {a w w' : World} (h : Grew v w v' w') (hs : a.heap.size ≤ w.heap.size) (hk : a.os = w.os ∧ a.tape = w.tape ∧ a.output = w.output) (hb : ∀ k, k < a.heap.size → w.heap[k]? = a.heap[k]?) : Grew v a v' w' :=
  ⟨⟨h.by_.os.trans hk.1.symm, h.by_.tape.trans hk.2.1.symm, h.by_.output.trans hk.2.2.symm, Nat.le_trans hs h.size, fun k hk' hne => (h.by_.block k (Nat.lt_of_lt_of_le hk' hs) hne).trans (hb k hk')⟩,
   h.at_.imp id (fun ⟨g, h1, h2⟩ => ⟨g, h1, Nat.le_trans hs h2⟩)⟩
theorem Grew.trans {v v1 v2 : Value} {w w1 w2 : World} (h : Grew v w v1 w1) (k : Grew v1 w1 v2 w2) : Grew v w v2 w2 := by
  refine ⟨⟨k.by_.os.trans h.by_.os, k.by_.tape.trans h.by_.tape, k.by_.output.trans h.by_.output, Nat.le_trans h.size k.size, fun i hi hne => ?_⟩, ?_⟩
  · refine (k.by_.block i (Nat.lt_of_lt_of_le hi h.size) ?_).trans (h.by_.block i hi hne)
    rcases h.at_ with e | ⟨g, e, hg⟩
    · rw [e]; exact hne
    · rw [e]; intro e'; cases e'; omega
  · rcases k.at_ with e | ⟨g, e, hg⟩
    · rw [e]; exact h.at_
    · exact .inr ⟨g, e, Nat.le_trans h.size hg⟩
theorem Grew.kept {v v' : Value} {w w' : World} {B : Nat} {xs : List UInt8} (h : Grew v w v' w') (ho : Own8 w B v xs) (hB : B ≤ w.heap.size) : Kept8 B w w' := kept8_grown ho hB h.by_
theorem Grew.unalloc {v v' : Value} {w w' : World} {o : Obj} (h : Grew v (w.alloc o) v' w') : Grew v w v' w' := h.ahead (by simp) ⟨rfl, rfl, rfl⟩ (fun _ hk => heap_alloc_old w o hk)
theorem Grew.undrew {v v' : Value} {w w' : World} (h : Grew v w.drew v' w') : Grew v w v' w' := h.ahead (Nat.le_refl _) ⟨rfl, rfl, rfl⟩ (fun _ _ => rfl)
theorem alloc2_new (w : World) (o1 o2 : Obj) : ((w.alloc o1).alloc o2).heap[w.heap.size + 1]? = some o2 := by
  have := heap_alloc_new (w.alloc o1) o2
  rwa [show (w.alloc o1).heap.size = w.heap.size + 1 by simp] at this
theorem alloc2_old (w : World) (o1 o2 : Obj) : ((w.alloc o1).alloc o2).heap[w.heap.size]? = some o1 := by
  rw [heap_alloc_old _ _ (by simp)]; exact heap_alloc_new w o1
theorem Grew.row {v v' : Value} {w w' : World} {g : Nat} {o : Obj} (h : Grew v w v' w') (hg : w.heap[g]? = some o) (hne : some g ≠ v.ownBlock) : w'.heap[g]? = some o ∧ some g ≠ v'.ownBlock := by
  have hl := (Array.getElem?_eq_some_iff.1 hg).1
  refine ⟨(h.by_.block g hl hne).trans hg, ?_⟩
  rcases h.at_ with e | ⟨g', e, h'⟩
  · rw [e]; exact hne
  · rw [e]; intro e'; cases e'; omega
theorem Own8.apart {w : World} {B : Nat} {v : Value} {xs : List UInt8} (h : Own8 w B v xs) {g : Nat} (hg : w.heap.size ≤ g) : some g ≠ v.ownBlock := fun e => by
  have := (World.ownsRow.lt h g e.symm).2; omega
theorem Own8.later {w w' : World} {B : Nat} {v : Value} {xs : List UInt8} (h : Own8 w B v xs) (hb : Below w.heap.size w w') : Own8 w' B v xs :=
  World.ownsRow.kept h (row := none) ⟨hb.os, hb.tape, hb.output, hb.size, fun k hk _ => hb.block k hk⟩ (by cases v.ownBlock <;> simp)
theorem one8 {x : Int} {c : UInt8} (h : (c.toNat : Int) = x) : #[Value.int .u8 x] = ([c].map byteV).toArray := by subst h; rfl
section
variable {W : World} {ops : Array Oper} {rest : List Oper} {o : Oper} {a : Act} {Q : Exit → Act → World → Prop}
theorem wpApp8 (hgd : o.guard = none) (s x : Operand) (ho : o.op = .call { callee := .builtin .append, args := #[s, x], argTypes := #[81, 81] })
    (B : Nat) (v : Value) (xs : List UInt8) (hs : a.eval s = v) (hown : Own8 W B v xs) (cells : Array Value) (ys : List UInt8) (m c : Nat) (hx : a.eval x = .slice (some ⟨W.heap.size, 0, none⟩) m c)
    (hm : ys.length = m) (hc : cells = (ys.map byteV).toArray) (hlim : xs.length + m ≤ 1000000000) (hB : B ≤ W.heap.size)
    (h : ∀ v' w', Own8 w' B v' (xs ++ ys) → Kept8 B W w' → wpList Tryz.prog ops Q rest (a.put o.dst v') w') :
    wpList Tryz.prog ops Q (o :: rest) a (W.alloc (.cells cells 5)) := by
  obtain ⟨i0, hi, hz0, hz1, hz2⟩ := info_parts info5
  subst hm
  subst hc
  refine wpList_append_own _ hgd s x 81 ho B 5 i0 (.int .u8 0) 1 1 Tryz.underlying81 hi hz0 hz1 hz2 rfl (by decide) v xs.length (xs.map byteV) hs (hown.alloc _) ⟨W.heap.size, 0, none⟩ ys.length c (ys.map byteV) hx (by simp) ?_ ?_ (by unfold maxLen; omega) (by omega) (by simp; omega) ?_
  · intro j u hj
    rw [Lib.add_plain, World.cell?_alloc_new]; simpa using hj
  · intro u hu
    obtain ⟨b, _, rfl⟩ := List.mem_map.1 hu
    rfl
  · intro v' w' h1 h2 _
    refine h v' w' ?_ ?_
    · unfold Own8; rw [List.length_append, List.map_append]; exact h1
    · exact ((Kept8.refl B W).alloc hB _).trans (kept8_grown (hown.alloc _) (by simp; omega) h2)
theorem run_app8 (B : Nat) (ty : TypeId) (v : Value) (xs : List UInt8) (hown : Own8 W B v xs) (g : Nat) (ys : List UInt8) (c : Nat) (fz : Nat × Nat) (hg : W.heap[g]? = some (.cells (ys.map byteV).toArray 5 fz))
    (hlim : xs.length + ys.length ≤ 1000000000) (hB : B ≤ W.heap.size) :
    ∃ v' w', (Builtin.append_ #[81, 81] ty #[v, .slice (some ⟨g, 0, none⟩) ys.length c]).run Tryz.prog W = .ok v' w' ∧ Own8 w' B v' (xs ++ ys) ∧ Grew v W v' w' := by
  obtain ⟨i0, hi, hz0, hz1, hz2⟩ := info_parts info5
  obtain ⟨v', w', hr, h2, h3, _, h5⟩ := run_append_own_at (P := Tryz.prog) W B 81 ty 5 i0 (.int .u8 0) 1 1 Tryz.underlying81 hi hz0 hz1 hz2 rfl (by decide) v xs.length (xs.map byteV) hown ⟨g, 0, none⟩ ys.length c (ys.map byteV) (by simp) (fun j u hj => by
      rw [Lib.add_plain, cell_of_row W g _ _ _ _ hg]; simpa using hj) (fun u hu => by obtain ⟨b, _, rfl⟩ := List.mem_map.1 hu; rfl) (by unfold maxLen; omega) (by omega) hB
  refine ⟨v', w', hr, ?_, h3, h5.imp id (fun e => ⟨_, e, Nat.le_refl _⟩)⟩
  unfold Own8; rw [List.length_append, List.map_append]; exact h2
theorem wpApp8g (hgd : o.guard = none) (s x : Operand) (ho : o.op = .call { callee := .builtin .append, args := #[s, x], argTypes := #[81, 81] })
    (B : Nat) (v : Value) (xs : List UInt8) (hs : a.eval s = v) (hown : Own8 W B v xs) (g : Nat) (ys : List UInt8) (m c : Nat) (hx : a.eval x = .slice (some ⟨g, 0, none⟩) m c) (fz : Nat × Nat)
    (hm : ys.length = m) (cells : Array Value) (hc : cells = (ys.map byteV).toArray) (hg : W.heap[g]? = some (.cells cells 5 fz)) (hlim : xs.length + m ≤ 1000000000) (hB : B ≤ W.heap.size)
    (h : ∀ v' w', Own8 w' B v' (xs ++ ys) → Grew v W v' w' → wpList Tryz.prog ops Q rest (a.put o.dst v') w') :
    wpList Tryz.prog ops Q (o :: rest) a W := by
  subst hm
  subst hc
  obtain ⟨v', w', hr, h2, h3⟩ := run_app8 (W := W) B o.type v xs hown g ys c fz hg hlim hB
  refine wpList_plain hgd fun K hK => ?_
  unfold Oper.wp execOp
  simp only [ho, resolve, invoke, builtin, Sem.run_bind, Sem.run_pure, Result.andThen_ok, List.map_toArray, List.map_cons, List.map_nil, hs, hx, hr]
  exact hK _ _ (h v' w' h2 h3)
theorem stepApp8g {K : Act → World → Prop} {E : Prop} (hgd : o.guard = none) (s x : Operand) (ho : o.op = .call { callee := .builtin .append, args := #[s, x], argTypes := #[81, 81] })
    (B : Nat) (v : Value) (xs : List UInt8) (hs : a.eval s = v) (hown : Own8 W B v xs) (g : Nat) (ys : List UInt8) (m c : Nat) (hx : a.eval x = .slice (some ⟨g, 0, none⟩) m c) (fz : Nat × Nat)
    (hm : ys.length = m) (cells : Array Value) (hc : cells = (ys.map byteV).toArray) (hg : W.heap[g]? = some (.cells cells 5 fz)) (hlim : xs.length + m ≤ 1000000000) (hB : B ≤ W.heap.size)
    (h : ∀ v' w', Own8 w' B v' (xs ++ ys) → Grew v W v' w' → K (a.put o.dst v') w') :
    if Region.wanted o (yielded ops a.tmps) = true then Oper.wp Tryz.prog o a W K Q else E := by
  have hw : Region.wanted o (yielded ops a.tmps) = true := by simp [Region.wanted, hgd]
  rw [if_pos hw]
  subst hm
  subst hc
  obtain ⟨v', w', hr, h2, h3⟩ := run_app8 (W := W) B o.type v xs hown g ys c fz hg hlim hB
  unfold Oper.wp execOp
  simp only [ho, resolve, invoke, builtin, Sem.run_bind, Sem.run_pure, Result.andThen_ok, List.map_toArray, List.map_cons, List.map_nil, hs, hx, hr]
  exact h v' w' h2 h3
theorem wpApp8s (hgd : o.guard = none) (sl x : Operand) (ho : o.op = .call { callee := .builtin .append, args := #[sl, x], argTypes := #[81, 9] })
    (B : Nat) (v : Value) (xs : List UInt8) (hs : a.eval sl = v) (hown : Own8 W B v xs) (s : ByteArray) (hx : a.eval x = .string s) (ys : List UInt8) (hy : s.data.toList = ys)
    (hlim : xs.length + s.size ≤ 1000000000) (hB : B ≤ W.heap.size)
    (h : ∀ v' w', Own8 w' B v' (xs ++ ys) → Kept8 B W w' → wpList Tryz.prog ops Q rest (a.put o.dst v') w') :
    wpList Tryz.prog ops Q (o :: rest) a W := by
  obtain ⟨i0, hi, hz0, hz1, hz2⟩ := info_parts info5
  subst hy
  refine Lib.wpList_append_own_string _ hgd sl x 81 9 ho B 5 i0 Tryz.underlying81 Tryz.underlying9 hi hz0 hz1 hz2 v xs.length (xs.map byteV) hs hown s hx (by unfold maxLen; omega) (by omega) hB ?_
  intro v' w' h1 h2 _
  refine h v' w' ?_ (kept8_grown hown hB h2)
  unfold Own8
  rw [List.length_append, List.map_append]
  have e : s.data.toList.length = s.size := by simp
  rw [e]; exact h1
end
/-- Bytes as a string. -/
theorem own8_conv {w : World} {B : Nat} {v : Value} {xs : List UInt8} (h : Own8 w B v xs) : (convert 81 9 v).run Tryz.prog w = .ok (.string ⟨xs.toArray⟩) w := by
  by_cases hx : 0 < xs.length
  · obtain ⟨g, c, rfl, hc⟩ := bytes_of_own h hx
    exact conv_row rfl hc
  · obtain rfl : xs = [] := List.eq_nil_of_length_eq_zero (by omega)
    obtain ⟨_, ⟨rfl, _⟩ | ⟨g, cap, cur, rfl, _⟩⟩ := h
    · kernel_rfl
    · exact conv_row rfl (fun k hk => by simp at hk)
end Go.Proofs.YtflcibmjblioaaaGreatDoor
