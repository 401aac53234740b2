/-
  Joined: Yi, Yj, Yk.
-/
import Derived.Test.YtfkjoppehbmomaaGreatDoorYh
import Derived.Test.YtfkjoppehbmomaaGreatDoorVd
import Derived.Test.YtfkjoppehbmomaaGreatDoorFh
import Derived.Lib.AtoiAllCases
import Derived.Lib.ItoaNum
import Derived.Lib.AtoiErrMem

/-
  The program's reader: a text of bytes; values that hold no others.
-/
namespace Go.Proofs.YtfkjoppehbmomaaGreatDoor
open Go.RowKit
set_option maxRecDepth 100000

/-- The cells of a value that holds no others. -/
def vc (k n : Int) (s : ByteArray) : Array Value := #[.int .i64 k, .int .i64 n, .string s, .slice none 0 0, .slice none 0 0]
def V0 (k n : Int) (s : ByteArray) : V := ⟨k, n, s, [], []⟩
theorem rep_vc (d : Nat) (w : World) (k n : Int) (s : ByteArray) (hs : s.size ≤ maxLen) : RepN (d + 1) w (V0 k n s) (vc k n s).toList :=
  ⟨none, none, 0, 0, rfl, ⟨hs, by simp [V0, maxLen], by simp [V0, maxLen]⟩, fun i x h => by simp [V0] at h, fun i q h => by simp [V0] at h⟩
/-- What text() makes of bytes: an error's number, and them. -/
def textR (e : Int) (xs : List UInt8) : Int := if e ≠ 0 then e else if 200 < xs.length then 2 else 0
def textV (e : Int) (xs : List UInt8) : Array Value := if textR e xs = 0 then vc 3 0 ⟨xs.toArray⟩ else vc 0 0 ⟨#[]⟩
theorem below_box (w : World) (o : Obj) : Below w.heap.size w (w.alloc o) := (Below.refl _ _).alloc (Nat.le_refl _) o
theorem below_set5 {B : Nat} {a w : World} (h : Below B a w) {b : Nat} (hb : B ≤ b) (v0 v1 v2 v3 v4 : Value) :
    Below B a (((((w.setCell ⟨b, 0, none⟩ v0).setCell ⟨b, 1, none⟩ v1).setCell ⟨b, 2, none⟩ v2).setCell ⟨b, 3, none⟩ v3).setCell ⟨b, 4, none⟩ v4) :=
  ((((h.setCell hb _).setCell hb _).setCell hb _).setCell hb _).setCell hb _
set_option maxHeartbeats 1000000 in
theorem yText (e : Int) (B : Nat) (v : Value) (xs : List UInt8) (w : World) (hown : Own8 w B v xs) :
    Calls Tryz.prog 36 #[v, errN e] w fun r w' => r = .returned (.tuple #[.agg (textV e xs), errN (textR e xs)]) ∧ Below w.heap.size w w' := by
  by_cases he : e = 0
  · subst he
    rw [errN_0]
    have hcv := fun (o : Obj) => own8_conv (hown.alloc o)
    obtain ⟨a, c, rfl⟩ := own8_slice hown
    by_cases h : (200 : Int) < xs.length
    · have HT := hid (show textR 0 xs = 2 by unfold textR; rw [if_neg (by simp), if_pos (by omega)])
      have HV := hid (show textV 0 xs = vc 0 0 ⟨#[]⟩ by unfold textV; rw [HT.out, if_neg (by decide)])
      rw [HT.out, HV.out]
      go_enter Tryz.func36, Tryz.ntmps36
      go_wp2
      refine bodyPost_ret (v := .tuple #[.agg (vc 0 0 ⟨#[]⟩), errN 2]) (by simp [results, Tryz.results36, go_sem]; exact ⟨rfl, rfl⟩) rfl ⟨rfl, ?_⟩
      first | exact below_box _ _ | exact below_set5 (below_box _ _) (Nat.le_refl _) _ _ _ _ _
    · have HT := hid (show textR 0 xs = 0 by unfold textR; rw [if_neg (by simp), if_neg (by omega)])
      have HV := hid (show textV 0 xs = vc 3 0 ⟨xs.toArray⟩ by unfold textV; rw [HT.out, if_pos rfl])
      rw [HT.out, HV.out]
      go_enter Tryz.func36, Tryz.ntmps36
      go_wp2
      refine bodyPost_ret (v := .tuple #[.agg (vc 3 0 ⟨xs.toArray⟩), errN 0]) (by simp [results, Tryz.results36, go_sem]; exact ⟨rfl, rfl⟩) rfl ⟨rfl, ?_⟩
      first | exact below_box _ _ | exact below_set5 (below_box _ _) (Nat.le_refl _) _ _ _ _ _
  · have HT := hid (show textR e xs = e by unfold textR; rw [if_pos he])
    have HV := hid (show textV e xs = vc 0 0 ⟨#[]⟩ by unfold textV; rw [HT.out, if_neg he])
    rw [HT.out, HV.out]
    have HE := hid (errN_pos he)
    rw [errN_pos he]
    unfold errV
    go_enter Tryz.func36, Tryz.ntmps36
    go_wp2
    refine bodyPost_ret (v := .tuple #[.agg (vc 0 0 ⟨#[]⟩), .iface 44 (.int .i64 e)]) (by simp [results, Tryz.results36, go_sem]; rfl) rfl ⟨rfl, ?_⟩
    first | exact below_box _ _ | exact below_set5 (below_box _ _) (Nat.le_refl _) _ _ _ _ _
end Go.Proofs.YtfkjoppehbmomaaGreatDoor

/-
  The program's reader: the rest of a reference.
-/
namespace Go.Proofs.YtfkjoppehbmomaaGreatDoor
open Go.RowKit
set_option maxRecDepth 100000

def w0 : ByteArray := ⟨#[48]⟩
def wR : ByteArray := ⟨#[82]⟩
/-- Where a reference ends whose number ends at k. -/
def refP (s : ByteArray) (k : Nat) : Option Nat :=
  if wordP s (skipP s k) = w0 then (if wordP s (skipP s (skipP s k + 1)) = wR then some (skipP s (skipP s k + 1) + 1) else none) else none
theorem word_beq (a b : ByteArray) : (a.toList == b.toList) = decide (a = b) := by
  rw [ByteArray.toList_eq, ByteArray.toList_eq, Bool.eq_iff_iff, beq_iff_eq, decide_eq_true_iff]
  constructor
  · intro h; cases a; cases b; congr 1; simpa using h
  · intro h; rw [h]
/-- Two readers, and two words beside them. -/
structure RefAt (w wr : World) (s : ByteArray) (j : Nat) : Prop where
  below : Below w.heap.size w wr
  at_ : RdAt wr w.heap.size s j
  row : At wr (w.heap.size + 1) 9 #[.string w0, .string wR]
theorem RefAt.moved {w a b : World} {s : ByteArray} {j i : Nat} (h : RefAt w a s j) (m : Moved w.heap.size a b s i) : RefAt w b s i :=
  ⟨m.keep.below h.below (Nat.le_refl _), m.at_, m.keep.at h.row (by omega)⟩
theorem RefAt.set {w a : World} {s : ByteArray} {j : Nat} (h : RefAt w a s j) {x : Int} {i : Nat} (e : x = i) : RefAt w (a.setCell ⟨w.heap.size, 1, none⟩ (.int .i64 x)) s i :=
  h.moved ((Moved.refl h.at_).set e)
theorem yWordN (P : Nat) (s ww : ByteArray) (k : Nat) (w : World) (hR : RdAt w P s k) (hk : k ≤ s.size) (hs : s.size ≤ 100000) (hw : wordP s k = ww) :
    Calls Tryz.prog 66 #[.pointer (some ⟨P, 0, none⟩)] w fun e w' => e = .returned (.string ww) ∧ Moved P w w' s (k + ww.size) := by
  subst hw; exact yWord P s k w hR hk hs
set_option maxHeartbeats 2000000 in
theorem yRefers (P : Nat) (s : ByteArray) (k : Nat) (w : World) (hR : RdAt w P s k) (hk : k ≤ s.size) (hs : s.size ≤ 100000) :
    Calls Tryz.prog 77 #[.pointer (some ⟨P, 0, none⟩)] w fun e w' => e = .returned (.bool (refP s k).isSome) ∧ Moved P w w' s ((refP s k).getD k) := by
  have hPl : P < w.heap.size := At.lt hR
  have c0 := hR.c0
  have c1 := hR.c1
  have HP := hid hR
  have k1l := skipP_le hk
  generalize hk1 : skipP s k = k1 at *
  have HK1 := hid hk1
  clear hk1
  obtain ⟨W1, hW1⟩ : ∃ W1, wordP s k1 = W1 := ⟨_, rfl⟩
  have HW1 := hid hW1
  have z1 := (wordP_size k1l.2).2
  rw [hW1] at z1
  clear hW1
  go_enter Tryz.func77, Tryz.ntmps77
  go_wp2
  go_loopw [11] (fun iv wr => (iv = .int .i64 0 ∧ RefAt w wr s k) ∨ (iv = .int .i64 1 ∧ W1 = w0 ∧ RefAt w wr s (k1 + 1)) ∨ (iv = .int .i64 2 ∧ W1 = w0 ∧ wordP s (skipP s (k1 + 1)) = wR ∧ RefAt w wr s (skipP s (k1 + 1) + 1))) (fun iv _ => 2 - (intOf iv).toNat)
  case atStart =>
    refine .inl ⟨rfl, ?_, ?_, ?_⟩
    · exact ((below_box _ _).alloc (by simp) _)
    · exact (At.new _ _ _ rfl).alloc _
    · exact At.new _ _ _ (by simp)
  case round =>
    rcases hrel with ⟨rfl, h⟩ | ⟨rfl, hW, h⟩ | ⟨rfl, hW, hW2, h⟩
    · have d0 := h.at_.c0
      have d1 := h.at_.c1
      have f1 := At.free h.at_ 1
      have r0 : wr.cell? ⟨w.heap.size + 1, 0, none⟩ = some (.string w0) := At.cell h.row 0
      have HSK := hid (fun (w : World) => pSkipN s k w hk hs)
      rw [HK1.out] at HSK
      by_cases hw : W1 = w0
      · have hb : (W1.toList == w0.toList) = true := by rw [word_beq]; exact decide_eq_true hw
        have HWW := hid hw
        clear hw
        go_wp2_with (first
          | (go_at_call 11; refine (HSK.out _).mono ?_; rintro e w1 ⟨rfl, rfl⟩)
          | (go_at_call 66; go_must (refine (yWordN w.heap.size s W1 k1 _ (h.set (x := (k1 : Int)) (i := k1) rfl).at_ k1l.2 hs HW1.out).mono ?_); rintro e w2 ⟨rfl, hm2⟩))
        go_roundw
        case rel =>
          refine .inr (.inl ⟨rfl, HWW.out, ?_⟩)
          have h2 := (h.set (x := (k1 : Int)) (i := k1) rfl).moved hm2
          rw [HWW.out] at h2
          exact h2
        case measure => simp [intOf]
      · have hb : (W1.toList == w0.toList) = false := by rw [word_beq]; exact decide_eq_false hw
        have HRN := hid (show refP s k = none by unfold refP; rw [HK1.out, HW1.out, if_neg hw])
        clear hw
        go_wp2_with (first
          | (go_at_call 11; refine (HSK.out _).mono ?_; rintro e w1 ⟨rfl, rfl⟩)
          | (go_at_call 66; go_must (refine (yWordN w.heap.size s W1 k1 _ (h.set (x := (k1 : Int)) (i := k1) rfl).at_ k1l.2 hs HW1.out).mono ?_); rintro e w2 ⟨rfl, hm2⟩))
        go_ret
        rw [HRN.out]
        refine ⟨rfl, (Moved.refl HP.out).below hPl ?_⟩
        exact ((h.set (x := (k1 : Int)) (i := k1) rfl).moved hm2).below
    · have d0 := h.at_.c0
      have d1 := h.at_.c1
      have f1 := At.free h.at_ 1
      have r1 : wr.cell? ⟨w.heap.size + 1, 1, none⟩ = some (.string wR) := At.cell h.row 1
      have hsz : k1 + 1 ≤ s.size := by rw [hW] at z1; exact z1
      have k3l := skipP_le hsz
      have HSK := hid (fun (w : World) => pSkipN s (k1 + 1) w hsz hs)
      obtain ⟨W2, hW2⟩ : ∃ W2, wordP s (skipP s (k1 + 1)) = W2 := ⟨_, rfl⟩
      have HW2 := hid hW2
      rw [hW2]
      have HWW := hid hW
      clear hW2 hW
      generalize hk3 : skipP s (k1 + 1) = k3 at *
      have HK3 := hid hk3
      clear hk3
      by_cases hw : W2 = wR
      · have hb : (W2.toList == wR.toList) = true := by rw [word_beq]; exact decide_eq_true hw
        have HWW2 := hid hw
        clear hw
        go_wp2_with (first
          | (go_at_call 11; refine (HSK.out _).mono ?_; rintro e w1 ⟨rfl, rfl⟩)
          | (go_at_call 66; go_must (refine (yWordN w.heap.size s W2 k3 _ (h.set (x := (k3 : Int)) (i := k3) rfl).at_ k3l.2 hs HW2.out).mono ?_); rintro e w2 ⟨rfl, hm2⟩))
        go_roundw
        case rel =>
          refine .inr (.inr ⟨rfl, HWW.out, HWW2.out, ?_⟩)
          have h2 := (h.set (x := (k3 : Int)) (i := k3) rfl).moved hm2
          rw [HWW2.out] at h2
          exact h2
        case measure => simp [intOf]
      · have hb : (W2.toList == wR.toList) = false := by rw [word_beq]; exact decide_eq_false hw
        have HRN := hid (show refP s k = none by unfold refP; rw [HK1.out, HW1.out, if_pos HWW.out, HK3.out, HW2.out, if_neg hw])
        clear hw
        go_wp2_with (first
          | (go_at_call 11; refine (HSK.out _).mono ?_; rintro e w1 ⟨rfl, rfl⟩)
          | (go_at_call 66; go_must (refine (yWordN w.heap.size s W2 k3 _ (h.set (x := (k3 : Int)) (i := k3) rfl).at_ k3l.2 hs HW2.out).mono ?_); rintro e w2 ⟨rfl, hm2⟩))
        go_ret
        rw [HRN.out]
        refine ⟨rfl, (Moved.refl HP.out).below hPl ?_⟩
        exact ((h.set (x := (k3 : Int)) (i := k3) rfl).moved hm2).below
    · have d0 := h.at_.c0
      have d1 := h.at_.c1
      have HRN := hid (show refP s k = some (skipP s (k1 + 1) + 1) by unfold refP; rw [HK1.out, HW1.out, if_pos hW, if_pos hW2])
      have hM := (Moved.refl HP.out).below hPl h.below
      have p0 := hM.at_.c0
      have p1 := hM.at_.c1
      have g0 := At.free hM.at_ 0
      have g1 := At.free hM.at_ 1
      generalize skipP s (k1 + 1) = k3 at *
      go_wp2
      go_ret
      rw [HRN.out]
      refine ⟨rfl, (hM.keep.set 0 _).set 1 _, ?_⟩
      have h1 := heap_setCell_same wr P 0 _ _ (.string s) hM.at_
      exact heap_setCell_same _ P 1 _ _ _ h1
end Go.Proofs.YtfkjoppehbmomaaGreatDoor

/-
  The program's reader: the number of an object.
-/
namespace Go.Proofs.YtfkjoppehbmomaaGreatDoor
open Go.RowKit
set_option maxRecDepth 100000

/-- The number of an object that these bytes tell; else 0. -/
def objL : List UInt8 → Nat
  | [a] => if 49 ≤ a.toNat ∧ a.toNat ≤ 57 then a.toNat - 48 else 0
  | [a, b] => if 49 ≤ a.toNat ∧ a.toNat ≤ 57 ∧ 48 ≤ b.toNat ∧ b.toNat ≤ 57 ∧ (a.toNat - 48) * 10 + (b.toNat - 48) ≤ 60 then (a.toNat - 48) * 10 + (b.toNat - 48) else 0
  | _ => 0
theorem obj_dec {n : Nat} (h1 : 1 ≤ n) (h2 : n ≤ 60) : objL (Lib.decDigits n) = n := by
  by_cases h : n < 10
  · rw [Lib.decDigits_one h]
    have : (UInt8.ofNat (48 + n)).toNat = 48 + n := by simp; omega
    simp only [objL, this]
    rw [if_pos (by omega)]; omega
  · rw [Lib.decDigits_two h (by omega)]
    have e1 : (UInt8.ofNat (48 + n / 10)).toNat = 48 + n / 10 := by simp; omega
    have e2 : (UInt8.ofNat (48 + n % 10)).toNat = 48 + n % 10 := by simp; omega
    simp only [objL, e1, e2]
    rw [if_pos (by omega)]; omega
theorem obj_pos {l : List UInt8} (h : objL l ≠ 0) : 1 ≤ objL l ∧ objL l ≤ 60 ∧ Lib.decDigits (objL l) = l ∧ Lib.atoiAll l = .ok (objL l : Int) := by
  match l, h with
  | [a], h =>
    by_cases c : 49 ≤ a.toNat ∧ a.toNat ≤ 57
    · have e : objL [a] = a.toNat - 48 := if_pos c
      rw [e]
      refine ⟨by omega, by omega, ?_, ?_⟩
      · rw [Lib.decDigits_one (by omega), show 48 + (a.toNat - 48) = a.toNat by omega]; simp
      · rw [Lib.atoiAll_plain a [] (by omega) (by omega)]
        have : Lib.parseMag [a] = .ok (a.toNat - 48) := by
          simp only [Lib.parseMag, Lib.parseUint10]
          rw [if_neg (by simp), if_pos (by omega), if_neg (by omega), if_neg (by omega)]
          simp
        rw [this]
        simp only [Lib.signless]
        rw [if_neg (by omega)]
    · exact absurd (if_neg c) h
  | [a, b], h =>
    by_cases c : 49 ≤ a.toNat ∧ a.toNat ≤ 57 ∧ 48 ≤ b.toNat ∧ b.toNat ≤ 57 ∧ (a.toNat - 48) * 10 + (b.toNat - 48) ≤ 60
    · have e : objL [a, b] = (a.toNat - 48) * 10 + (b.toNat - 48) := if_pos c
      rw [e]
      refine ⟨by omega, by omega, ?_, ?_⟩
      · rw [Lib.decDigits_two (by omega) (by omega), show 48 + ((a.toNat - 48) * 10 + (b.toNat - 48)) / 10 = a.toNat by omega, show 48 + ((a.toNat - 48) * 10 + (b.toNat - 48)) % 10 = b.toNat by omega]; simp
      · rw [Lib.atoiAll_plain a [b] (by omega) (by omega)]
        have : Lib.parseMag [a, b] = .ok ((a.toNat - 48) * 10 + (b.toNat - 48)) := by
          simp only [Lib.parseMag, Lib.parseUint10]
          rw [if_neg (by simp), if_pos (by omega), if_neg (by omega), if_neg (by omega), if_pos (by omega), if_neg (by omega), if_neg (by omega)]
          simp
        rw [this]
        simp only [Lib.signless]
        rw [if_neg (by omega)]
    · exact absurd (if_neg c) h

/-- A variable that holds an error, or none. -/
def IfAt (w : World) (b : Nat) : Prop := ∃ ev, w.cell? ⟨b, 0, none⟩ = some ev ∧ (ev = .nilIface ∨ ∃ te pe, ev = .iface te pe)
theorem IfAt.later {w w' : World} {b : Nat} (h : IfAt w b) (hb : Below w.heap.size w w') : IfAt w' b := by
  obtain ⟨ev, h1, h2⟩ := h
  exact ⟨ev, cell_later hb h1, h2⟩
theorem bel_bytes {w w' : World} (h : w' = w ∨ ∃ t, w' = Lib.bytesWorld w 5 t) : Below w.heap.size w w' := by
  rcases h with rfl | ⟨t, rfl⟩
  · exact Below.refl _ _
  · exact Lib.bytesWorld_below _ _ _
theorem digits_ba {n : Nat} {s : ByteArray} : (⟨(Lib.decDigits n).toArray⟩ : ByteArray) = s ↔ Lib.decDigits n = s.data.toList := by
  constructor
  · intro h; rw [← h]
  · intro h; rw [h]
set_option maxHeartbeats 2000000 in
theorem yObject (s : ByteArray) (w : World) (hs : s.size ≤ 100000) (h2 : IfAt w 2) (h3 : IfAt w 3) :
    Calls Tryz.prog 76 #[.string s] w fun e w' => e = .returned (.int .i64 (objL s.data.toList : Nat)) ∧ Below w.heap.size w w' := by
  have hz : Lib.atoiAll s.data.toList ≠ .ok (objL s.data.toList : Int) → objL s.data.toList = 0 := fun h => Decidable.by_contra fun c => h (obj_pos c).2.2.2
  rcases ha : Lib.atoiAll s.data.toList with v | _ | _
  · have hc := Tryz.strconv_Atoi_ok s (by omega) v ha w
    by_cases hv : 1 ≤ v ∧ v ≤ 60
    · obtain ⟨n, rfl⟩ : ∃ n : Nat, v = n := ⟨v.toNat, by omega⟩
      have hi := fun w => Tryz.strconv_Itoa_small n (by omega) w
      by_cases he : Lib.decDigits n = s.data.toList
      · have ho : objL s.data.toList = n := by rw [← he]; exact obj_dec (by omega) (by omega)
        rw [ho]
        have hq : (⟨(Lib.decDigits n).toArray⟩ : ByteArray) = s := digits_ba.2 he
        rw [hq] at hi
        have Hhi := hid ha
        clear ha hz ho he hq
        go_enter Tryz.func76, Tryz.ntmps76
        go_wp2_with (first
          | (go_at_call 99; refine hc.mono ?_; rintro e w1 ⟨rfl, hw1⟩)
          | (go_at_call 91; refine (hi _).mono ?_; rintro e w2 ⟨rfl, rfl⟩))
        go_ret
        exact ⟨rfl, bel_bytes hw1⟩
      · have ho : objL s.data.toList = 0 := Decidable.by_contra fun c => by
          obtain ⟨_, _, h3, h4⟩ := obj_pos c
          rw [ha] at h4
          injection h4 with h4
          have : n = objL s.data.toList := by omega
          exact he (by rw [this]; exact h3)
        rw [ho]
        have hq : ((⟨(Lib.decDigits n).toArray⟩ : ByteArray).toList == s.toList) = false := by
          rw [word_beq]; exact decide_eq_false fun h => he (digits_ba.1 h)
        generalize (⟨(Lib.decDigits n).toArray⟩ : ByteArray) = D at hq hi
        clear ha hz ho he
        go_enter Tryz.func76, Tryz.ntmps76
        go_wp2_with (first
          | (go_at_call 99; refine hc.mono ?_; rintro e w1 ⟨rfl, hw1⟩)
          | (go_at_call 91; refine (hi _).mono ?_; rintro e w2 ⟨rfl, rfl⟩))
        go_ret
        exact ⟨rfl, bel_bytes hw1⟩
    · have ho : objL s.data.toList = 0 := Decidable.by_contra fun c => by
        obtain ⟨h1, h2, _, h4⟩ := obj_pos c
        rw [ha] at h4
        injection h4 with h4
        omega
      rw [ho]
      clear ha hz ho
      by_cases hv1 : v < 1
      · go_enter Tryz.func76, Tryz.ntmps76
        go_wp2_with (go_at_call 99; refine hc.mono ?_; rintro e w1 ⟨rfl, hw1⟩)
        go_ret
        exact ⟨rfl, bel_bytes hw1⟩
      · have hv2 : 60 < v := by omega
        go_enter Tryz.func76, Tryz.ntmps76
        go_wp2_with (go_at_call 99; refine hc.mono ?_; rintro e w1 ⟨rfl, hw1⟩)
        go_ret
        exact ⟨rfl, bel_bytes hw1⟩
  · rw [hz (by rw [ha]; simp)]
    obtain ⟨ev, h21, h22⟩ := h2
    have hc := Any.strconv_Atoi_syntax Tryz.laysC172 s (by omega) ha ev w h21 h22
    clear ha hz
    go_enter Tryz.func76, Tryz.ntmps76
    go_wp2_with (go_at_call 99; refine hc.mono ?_; rintro e w1 ⟨N, rfl, _, _, hw1⟩)
    go_ret
    exact ⟨rfl, hw1⟩
  · rw [hz (by rw [ha]; simp)]
    obtain ⟨ev, h31, h32⟩ := h3
    have hc := Tryz.strconv_Atoi_range s (by omega) ha ev w h31 h32
    clear ha hz
    go_enter Tryz.func76, Tryz.ntmps76
    go_wp2_with (go_at_call 99; refine hc.mono ?_; rintro e w1 ⟨N, rfl, _, _, hw1⟩)
    go_ret
    exact ⟨rfl, hw1⟩
end Go.Proofs.YtfkjoppehbmomaaGreatDoor
