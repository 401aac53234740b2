/-
  Joined: Yj, Yk, Yl.
-/
import Derived.Test.YtflcibmjblioaaaGreatDoorYi
import Derived.Test.YtflcibmjblioaaaGreatDoorMh
import Derived.Lib.AtoiAllCases
import Derived.Lib.ItoaNum
import Derived.Lib.AtoiErrMem

/-
  The program's reader: the rest of a reference.
-/
namespace Go.Proofs.YtflcibmjblioaaaGreatDoor
open Go.RowKit
set_option maxRecDepth 100000

def w0 : ByteArray := ⟨#[48]⟩
def wR : ByteArray := ⟨#[82]⟩
/-- Where a reference ends whose number ends at k. -/
def refP (s : ByteArray) (k : Nat) : Option Nat :=
  if wordP s (skipP s k) = w0 then (if wordP s (skipP s (skipP s k + 1)) = wR then some (skipP s (skipP s k + 1) + 1) else none) else none
theorem word_beq (a b : ByteArray) : (a.toList == b.toList) = decide (a = b) := by
  rw [ByteArray.toList_eq, ByteArray.toList_eq, Bool.eq_iff_iff, beq_iff_eq, decide_eq_true_iff]
  constructor
  · intro h; cases a; cases b; congr 1; simpa using h
  · intro h; rw [h]
/-- Two readers, and two words beside them. -/
structure RefAt (w wr : World) (s : ByteArray) (j : Nat) : Prop where
  below : Below w.heap.size w wr
  at_ : RdAt wr w.heap.size s j
  row : At wr (w.heap.size + 1) 9 #[.string w0, .string wR]
theorem RefAt.moved {w a b : World} {s : ByteArray} {j i : Nat} (h : RefAt w a s j) (m : Moved w.heap.size a b s i) : RefAt w b s i :=
  ⟨m.keep.below h.below (Nat.le_refl _), m.at_, m.keep.at h.row (by omega)⟩
theorem RefAt.set {w a : World} {s : ByteArray} {j : Nat} (h : RefAt w a s j) {x : Int} {i : Nat} (e : x = i) : RefAt w (a.setCell ⟨w.heap.size, 1, none⟩ (.int .i64 x)) s i :=
  h.moved ((Moved.refl h.at_).set e)
theorem yWordN (P : Nat) (s ww : ByteArray) (k : Nat) (w : World) (hR : RdAt w P s k) (hk : k ≤ s.size) (hs : s.size ≤ 100000) (hw : wordP s k = ww) :
    Calls Tryz.prog 139 #[.pointer (some ⟨P, 0, none⟩)] w fun e w' => e = .returned (.string ww) ∧ Moved P w w' s (k + ww.size) := by
  subst hw; exact yWord P s k w hR hk hs
set_option maxHeartbeats 2000000 in
theorem yRefers (P : Nat) (s : ByteArray) (k : Nat) (w : World) (hR : RdAt w P s k) (hk : k ≤ s.size) (hs : s.size ≤ 100000) :
    Calls Tryz.prog 150 #[.pointer (some ⟨P, 0, none⟩)] w fun e w' => e = .returned (.bool (refP s k).isSome) ∧ Moved P w w' s ((refP s k).getD k) := by
  have hPl : P < w.heap.size := At.lt hR
  have c0 := hR.c0
  have c1 := hR.c1
  have HP := hid hR
  have k1l := skipP_le hk
  generalize hk1 : skipP s k = k1 at *
  have HK1 := hid hk1
  clear hk1
  obtain ⟨W1, hW1⟩ : ∃ W1, wordP s k1 = W1 := ⟨_, rfl⟩
  have HW1 := hid hW1
  have z1 := (wordP_size k1l.2).2
  rw [hW1] at z1
  clear hW1
  go_enter Tryz.func150, Tryz.ntmps150
  go_wp2
  go_loopw [11] (fun iv wr => (iv = .int .i64 0 ∧ RefAt w wr s k) ∨ (iv = .int .i64 1 ∧ W1 = w0 ∧ RefAt w wr s (k1 + 1)) ∨ (iv = .int .i64 2 ∧ W1 = w0 ∧ wordP s (skipP s (k1 + 1)) = wR ∧ RefAt w wr s (skipP s (k1 + 1) + 1))) (fun iv _ => 2 - (intOf iv).toNat)
  case atStart =>
    refine .inl ⟨rfl, ?_, ?_, ?_⟩
    · exact ((below_box _ _).alloc (by simp) _)
    · exact (At.new _ _ _ rfl).alloc _
    · exact At.new _ _ _ (by simp)
  case round =>
    rcases hrel with ⟨rfl, h⟩ | ⟨rfl, hW, h⟩ | ⟨rfl, hW, hW2, h⟩
    · have d0 := h.at_.c0
      have d1 := h.at_.c1
      have f1 := At.free h.at_ 1
      have r0 : wr.cell? ⟨w.heap.size + 1, 0, none⟩ = some (.string w0) := At.cell h.row 0
      have HSK := hid (fun (w : World) => pSkipN s k w hk hs)
      rw [HK1.out] at HSK
      by_cases hw : W1 = w0
      · have hb : (W1.toList == w0.toList) = true := by rw [word_beq]; exact decide_eq_true hw
        have HWW := hid hw
        clear hw
        go_wp2_with (first
          | (go_at_call 47; refine (HSK.out _).mono ?_; rintro e w1 ⟨rfl, rfl⟩)
          | (go_at_call 139; go_must (refine (yWordN w.heap.size s W1 k1 _ (h.set (x := (k1 : Int)) (i := k1) rfl).at_ k1l.2 hs HW1.out).mono ?_); rintro e w2 ⟨rfl, hm2⟩))
        go_roundw
        case rel =>
          refine .inr (.inl ⟨rfl, HWW.out, ?_⟩)
          have h2 := (h.set (x := (k1 : Int)) (i := k1) rfl).moved hm2
          rw [HWW.out] at h2
          exact h2
        case measure => simp [intOf]
      · have hb : (W1.toList == w0.toList) = false := by rw [word_beq]; exact decide_eq_false hw
        have HRN := hid (show refP s k = none by unfold refP; rw [HK1.out, HW1.out, if_neg hw])
        clear hw
        go_wp2_with (first
          | (go_at_call 47; refine (HSK.out _).mono ?_; rintro e w1 ⟨rfl, rfl⟩)
          | (go_at_call 139; go_must (refine (yWordN w.heap.size s W1 k1 _ (h.set (x := (k1 : Int)) (i := k1) rfl).at_ k1l.2 hs HW1.out).mono ?_); rintro e w2 ⟨rfl, hm2⟩))
        go_ret
        rw [HRN.out]
        refine ⟨rfl, (Moved.refl HP.out).below hPl ?_⟩
        exact ((h.set (x := (k1 : Int)) (i := k1) rfl).moved hm2).below
    · have d0 := h.at_.c0
      have d1 := h.at_.c1
      have f1 := At.free h.at_ 1
      have r1 : wr.cell? ⟨w.heap.size + 1, 1, none⟩ = some (.string wR) := At.cell h.row 1
      have hsz : k1 + 1 ≤ s.size := by rw [hW] at z1; exact z1
      have k3l := skipP_le hsz
      have HSK := hid (fun (w : World) => pSkipN s (k1 + 1) w hsz hs)
      obtain ⟨W2, hW2⟩ : ∃ W2, wordP s (skipP s (k1 + 1)) = W2 := ⟨_, rfl⟩
      have HW2 := hid hW2
      rw [hW2]
      have HWW := hid hW
      clear hW2 hW
      generalize hk3 : skipP s (k1 + 1) = k3 at *
      have HK3 := hid hk3
      clear hk3
      by_cases hw : W2 = wR
      · have hb : (W2.toList == wR.toList) = true := by rw [word_beq]; exact decide_eq_true hw
        have HWW2 := hid hw
        clear hw
        go_wp2_with (first
          | (go_at_call 47; refine (HSK.out _).mono ?_; rintro e w1 ⟨rfl, rfl⟩)
          | (go_at_call 139; go_must (refine (yWordN w.heap.size s W2 k3 _ (h.set (x := (k3 : Int)) (i := k3) rfl).at_ k3l.2 hs HW2.out).mono ?_); rintro e w2 ⟨rfl, hm2⟩))
        go_roundw
        case rel =>
          refine .inr (.inr ⟨rfl, HWW.out, HWW2.out, ?_⟩)
          have h2 := (h.set (x := (k3 : Int)) (i := k3) rfl).moved hm2
          rw [HWW2.out] at h2
          exact h2
        case measure => simp [intOf]
      · have hb : (W2.toList == wR.toList) = false := by rw [word_beq]; exact decide_eq_false hw
        have HRN := hid (show refP s k = none by unfold refP; rw [HK1.out, HW1.out, if_pos HWW.out, HK3.out, HW2.out, if_neg hw])
        clear hw
        go_wp2_with (first
          | (go_at_call 47; refine (HSK.out _).mono ?_; rintro e w1 ⟨rfl, rfl⟩)
          | (go_at_call 139; go_must (refine (yWordN w.heap.size s W2 k3 _ (h.set (x := (k3 : Int)) (i := k3) rfl).at_ k3l.2 hs HW2.out).mono ?_); rintro e w2 ⟨rfl, hm2⟩))
        go_ret
        rw [HRN.out]
        refine ⟨rfl, (Moved.refl HP.out).below hPl ?_⟩
        exact ((h.set (x := (k3 : Int)) (i := k3) rfl).moved hm2).below
    · have d0 := h.at_.c0
      have d1 := h.at_.c1
      have HRN := hid (show refP s k = some (skipP s (k1 + 1) + 1) by unfold refP; rw [HK1.out, HW1.out, if_pos hW, if_pos hW2])
      have hM := (Moved.refl HP.out).below hPl h.below
      have p0 := hM.at_.c0
      have p1 := hM.at_.c1
      have g0 := At.free hM.at_ 0
      have g1 := At.free hM.at_ 1
      generalize skipP s (k1 + 1) = k3 at *
      go_wp2
      go_ret
      rw [HRN.out]
      refine ⟨rfl, (hM.keep.set 0 _).set 1 _, ?_⟩
      have h1 := heap_setCell_same wr P 0 _ _ (.string s) hM.at_
      exact heap_setCell_same _ P 1 _ _ _ h1
end Go.Proofs.YtflcibmjblioaaaGreatDoor

/-
  The program's reader: the number of an object.
-/
namespace Go.Proofs.YtflcibmjblioaaaGreatDoor
open Go.RowKit
set_option maxRecDepth 100000

/-- The number of an object that these bytes tell; else 0. -/
def objL : List UInt8 → Nat
  | [a] => if 49 ≤ a.toNat ∧ a.toNat ≤ 57 then a.toNat - 48 else 0
  | [a, b] => if 49 ≤ a.toNat ∧ a.toNat ≤ 57 ∧ 48 ≤ b.toNat ∧ b.toNat ≤ 57 ∧ (a.toNat - 48) * 10 + (b.toNat - 48) ≤ 60 then (a.toNat - 48) * 10 + (b.toNat - 48) else 0
  | _ => 0
theorem obj_dec {n : Nat} (h1 : 1 ≤ n) (h2 : n ≤ 60) : objL (Lib.decDigits n) = n := by
  by_cases h : n < 10
  · rw [Lib.decDigits_one h]
    have : (UInt8.ofNat (48 + n)).toNat = 48 + n := by simp; omega
    simp only [objL, this]
    rw [if_pos (by omega)]; omega
  · rw [Lib.decDigits_two h (by omega)]
    have e1 : (UInt8.ofNat (48 + n / 10)).toNat = 48 + n / 10 := by simp; omega
    have e2 : (UInt8.ofNat (48 + n % 10)).toNat = 48 + n % 10 := by simp; omega
    simp only [objL, e1, e2]
    rw [if_pos (by omega)]; omega
theorem obj_pos {l : List UInt8} (h : objL l ≠ 0) : 1 ≤ objL l ∧ objL l ≤ 60 ∧ Lib.decDigits (objL l) = l ∧ Lib.atoiAll l = .ok (objL l : Int) := by
  match l, h with
  | [a], h =>
    by_cases c : 49 ≤ a.toNat ∧ a.toNat ≤ 57
    · have e : objL [a] = a.toNat - 48 := if_pos c
      rw [e]
      refine ⟨by omega, by omega, ?_, ?_⟩
      · rw [Lib.decDigits_one (by omega), show 48 + (a.toNat - 48) = a.toNat by omega]; simp
      · rw [Lib.atoiAll_plain a [] (by omega) (by omega)]
        have : Lib.parseMag [a] = .ok (a.toNat - 48) := by
          simp only [Lib.parseMag, Lib.parseUint10]
          rw [if_neg (by simp), if_pos (by omega), if_neg (by omega), if_neg (by omega)]
          simp
        rw [this]
        simp only [Lib.signless]
        rw [if_neg (by omega)]
    · exact absurd (if_neg c) h
  | [a, b], h =>
    by_cases c : 49 ≤ a.toNat ∧ a.toNat ≤ 57 ∧ 48 ≤ b.toNat ∧ b.toNat ≤ 57 ∧ (a.toNat - 48) * 10 + (b.toNat - 48) ≤ 60
    · have e : objL [a, b] = (a.toNat - 48) * 10 + (b.toNat - 48) := if_pos c
      rw [e]
      refine ⟨by omega, by omega, ?_, ?_⟩
      · rw [Lib.decDigits_two (by omega) (by omega), show 48 + ((a.toNat - 48) * 10 + (b.toNat - 48)) / 10 = a.toNat by omega, show 48 + ((a.toNat - 48) * 10 + (b.toNat - 48)) % 10 = b.toNat by omega]; simp
      · rw [Lib.atoiAll_plain a [b] (by omega) (by omega)]
        have : Lib.parseMag [a, b] = .ok ((a.toNat - 48) * 10 + (b.toNat - 48)) := by
          simp only [Lib.parseMag, Lib.parseUint10]
          rw [if_neg (by simp), if_pos (by omega), if_neg (by omega), if_neg (by omega), if_pos (by omega), if_neg (by omega), if_neg (by omega)]
          simp
        rw [this]
        simp only [Lib.signless]
        rw [if_neg (by omega)]
    · exact absurd (if_neg c) h

/-- A variable that holds an error, or none. -/
def IfAt (w : World) (b : Nat) : Prop := ∃ ev, w.cell? ⟨b, 0, none⟩ = some ev ∧ (ev = .nilIface ∨ ∃ te pe, ev = .iface te pe)
theorem IfAt.later {w w' : World} {b : Nat} (h : IfAt w b) (hb : Below w.heap.size w w') : IfAt w' b := by
  obtain ⟨ev, h1, h2⟩ := h
  exact ⟨ev, cell_later hb h1, h2⟩
theorem bel_bytes {w w' : World} (h : w' = w ∨ ∃ t, w' = Lib.bytesWorld w 5 t) : Below w.heap.size w w' := by
  rcases h with rfl | ⟨t, rfl⟩
  · exact Below.refl _ _
  · exact Lib.bytesWorld_below _ _ _
theorem digits_ba {n : Nat} {s : ByteArray} : (⟨(Lib.decDigits n).toArray⟩ : ByteArray) = s ↔ Lib.decDigits n = s.data.toList := by
  constructor
  · intro h; rw [← h]
  · intro h; rw [h]
set_option maxHeartbeats 2000000 in
theorem yObject (s : ByteArray) (w : World) (hs : s.size ≤ 100000) (h2 : IfAt w 1) (h3 : IfAt w 2) :
    Calls Tryz.prog 149 #[.string s] w fun e w' => e = .returned (.int .i64 (objL s.data.toList : Nat)) ∧ Below w.heap.size w w' := by
  have hz : Lib.atoiAll s.data.toList ≠ .ok (objL s.data.toList : Int) → objL s.data.toList = 0 := fun h => Decidable.by_contra fun c => h (obj_pos c).2.2.2
  rcases ha : Lib.atoiAll s.data.toList with v | _ | _
  · have hc := Tryz.strconv_Atoi_ok s (by omega) v ha w
    by_cases hv : 1 ≤ v ∧ v ≤ 60
    · obtain ⟨n, rfl⟩ : ∃ n : Nat, v = n := ⟨v.toNat, by omega⟩
      have hi := fun w => Tryz.strconv_Itoa_small n (by omega) w
      by_cases he : Lib.decDigits n = s.data.toList
      · have ho : objL s.data.toList = n := by rw [← he]; exact obj_dec (by omega) (by omega)
        rw [ho]
        have hq : (⟨(Lib.decDigits n).toArray⟩ : ByteArray) = s := digits_ba.2 he
        rw [hq] at hi
        have Hhi := hid ha
        clear ha hz ho he hq
        go_enter Tryz.func149, Tryz.ntmps149
        go_wp2_with (first
          | (go_at_call 46; refine hc.mono ?_; rintro e w1 ⟨rfl, hw1⟩)
          | (go_at_call 27; refine (hi _).mono ?_; rintro e w2 ⟨rfl, rfl⟩))
        go_ret
        exact ⟨rfl, bel_bytes hw1⟩
      · have ho : objL s.data.toList = 0 := Decidable.by_contra fun c => by
          obtain ⟨_, _, h3, h4⟩ := obj_pos c
          rw [ha] at h4
          injection h4 with h4
          have : n = objL s.data.toList := by omega
          exact he (by rw [this]; exact h3)
        rw [ho]
        have hq : ((⟨(Lib.decDigits n).toArray⟩ : ByteArray).toList == s.toList) = false := by
          rw [word_beq]; exact decide_eq_false fun h => he (digits_ba.1 h)
        generalize (⟨(Lib.decDigits n).toArray⟩ : ByteArray) = D at hq hi
        clear ha hz ho he
        go_enter Tryz.func149, Tryz.ntmps149
        go_wp2_with (first
          | (go_at_call 46; refine hc.mono ?_; rintro e w1 ⟨rfl, hw1⟩)
          | (go_at_call 27; refine (hi _).mono ?_; rintro e w2 ⟨rfl, rfl⟩))
        go_ret
        exact ⟨rfl, bel_bytes hw1⟩
    · have ho : objL s.data.toList = 0 := Decidable.by_contra fun c => by
        obtain ⟨h1, h2, _, h4⟩ := obj_pos c
        rw [ha] at h4
        injection h4 with h4
        omega
      rw [ho]
      clear ha hz ho
      by_cases hv1 : v < 1
      · go_enter Tryz.func149, Tryz.ntmps149
        go_wp2_with (go_at_call 46; refine hc.mono ?_; rintro e w1 ⟨rfl, hw1⟩)
        go_ret
        exact ⟨rfl, bel_bytes hw1⟩
      · have hv2 : 60 < v := by omega
        go_enter Tryz.func149, Tryz.ntmps149
        go_wp2_with (go_at_call 46; refine hc.mono ?_; rintro e w1 ⟨rfl, hw1⟩)
        go_ret
        exact ⟨rfl, bel_bytes hw1⟩
  · rw [hz (by rw [ha]; simp)]
    obtain ⟨ev, h21, h22⟩ := h2
    have hc := Any.strconv_Atoi_syntax Tryz.laysC172 s (by omega) ha ev w h21 h22
    clear ha hz
    go_enter Tryz.func149, Tryz.ntmps149
    go_wp2_with (go_at_call 46; refine hc.mono ?_; rintro e w1 ⟨N, rfl, _, _, hw1⟩)
    go_ret
    exact ⟨rfl, hw1⟩
  · rw [hz (by rw [ha]; simp)]
    obtain ⟨ev, h31, h32⟩ := h3
    have hc := Tryz.strconv_Atoi_range s (by omega) ha ev w h31 h32
    clear ha hz
    go_enter Tryz.func149, Tryz.ntmps149
    go_wp2_with (go_at_call 46; refine hc.mono ?_; rintro e w1 ⟨N, rfl, _, _, hw1⟩)
    go_ret
    exact ⟨rfl, hw1⟩
end Go.Proofs.YtflcibmjblioaaaGreatDoor

/-
  The program's reader: what a word says.
-/
namespace Go.Proofs.YtflcibmjblioaaaGreatDoor
open Go.RowKit
set_option maxRecDepth 100000

/-- What the reader leans on, a reader's block at P above all variables. -/
structure Env (m : Int) (P : Nat) (w : World) : Prop where
  rdy : Rdy m w
  syn : IfAt w 1
  rng : IfAt w 2
  lp : 3 < P
  lm : 0 < P
  ls : 1 < P
  lr : 2 < P
theorem KeepBut.upTo {P : Nat} {w w' : World} (h : KeepBut P w w') (hP : P ≤ w.heap.size) : Below P w w' :=
  ⟨h.os, h.tape, h.output, h.size, fun k hk => h.block k (by omega) (by omega)⟩
theorem var_upTo {p : Program} {W W' : World} {B g : Nat} {n : String} {cs : Array Value} (hg : p.globalNamed n = some g) (h : W.var? p n = some cs) (hb : Below B W W') (hB : g < B) : W'.var? p n = some cs := by
  unfold World.var? at h ⊢
  rw [hg] at h ⊢
  simp only [Option.bind_some] at h ⊢
  rw [hb.block g hB]
  exact h
theorem Env.upTo {m : Int} {P : Nat} {w w' : World} (h : Env m P w) (hb : Below P w w') : Env m P w' := by
  obtain ⟨⟨ht, hm⟩, ⟨ev, s1, s2⟩, ⟨er, r1, r2⟩, l1, l2, l3, l4⟩ := h
  refine ⟨⟨var_upTo gPow ht hb l1, ?_⟩, ⟨ev, ?_, s2⟩, ⟨er, ?_, r2⟩, l1, l2, l3, l4⟩
  · exact (hb.cell (p := ⟨_, 0, none⟩) l2).trans hm
  · exact (hb.cell (p := ⟨_, 0, none⟩) l3).trans s1
  · exact (hb.cell (p := ⟨_, 0, none⟩) l4).trans r1
theorem Env.moved {m : Int} {P : Nat} {w w' : World} {s : ByteArray} {k : Nat} (h : Env m P w) (hm : Moved P w w' s k) (hP : P < w.heap.size) : Env m P w' := h.upTo (hm.keep.upTo (by omega))
theorem Env.below {m : Int} {P : Nat} {w w' : World} (h : Env m P w) (hb : Below w.heap.size w w') (hP : P < w.heap.size) : Env m P w' := h.upTo (Joins.below_le hb (by omega))

def wNull : ByteArray := ⟨#[110, 117, 108, 108]⟩
def wTrue : ByteArray := ⟨#[116, 114, 117, 101]⟩
def wFalse : ByteArray := ⟨#[102, 97, 108, 115, 101]⟩
def eB : ByteArray := ⟨#[]⟩
/-- What a word says: kind and number; an error; where it ends. -/
def otherK (s : ByteArray) (k : Nat) : Int × Int × Int × Nat :=
  let W := wordP s k
  let j := k + W.size
  if W = wNull then (0, 0, 0, j) else if W = wTrue then (1, 1, 0, j) else if W = wFalse then (1, 0, 0, j)
  else if objL W.data.toList ≠ 0 ∧ (refP s j).isSome = true then (7, (objL W.data.toList : Nat), 0, (refP s j).getD j)
  else (2, parseN W.data.toList, parseE W.data.toList, j)
theorem word_ne {a b : ByteArray} (h : a ≠ b) : (a.toList == b.toList) = false := by rw [word_beq]; exact decide_eq_false h
theorem box5 {w : World} {b : Nat} {t : TypeId} {k n : Int} {s : ByteArray} (h : At w b t (vc k n s)) :
    (w.cell? ⟨b, 0, none⟩ = some (.int .i64 k) ∧ w.cell? ⟨b, 1, none⟩ = some (.int .i64 n) ∧ w.cell? ⟨b, 2, none⟩ = some (.string s) ∧ w.cell? ⟨b, 3, none⟩ = some (.slice none 0 0) ∧ w.cell? ⟨b, 4, none⟩ = some (.slice none 0 0)) ∧
    (w.frozen? ⟨b, 0, none⟩ = false ∧ w.frozen? ⟨b, 1, none⟩ = false ∧ w.frozen? ⟨b, 2, none⟩ = false ∧ w.frozen? ⟨b, 3, none⟩ = false ∧ w.frozen? ⟨b, 4, none⟩ = false) :=
  ⟨⟨At.cell h 0, At.cell h 1, At.cell h 2, At.cell h 3, At.cell h 4⟩, At.free h 0, At.free h 1, At.free h 2, At.free h 3, At.free h 4⟩
theorem At.vc5 {w : World} {b : Nat} {t : TypeId} {k n : Int} {s : ByteArray} (h : At w b t (vc k n s)) (k' n' : Int) (s' : ByteArray) :
    At (((((w.setCell ⟨b, 0, none⟩ (.int .i64 k')).setCell ⟨b, 1, none⟩ (.int .i64 n')).setCell ⟨b, 2, none⟩ (.string s')).setCell ⟨b, 3, none⟩ (.slice none 0 0)).setCell ⟨b, 4, none⟩ (.slice none 0 0)) b t (vc k' n' s') := by
  have h0 := heap_setCell_same w b 0 _ _ (.int .i64 k') h
  have h1 := heap_setCell_same _ b 1 _ _ (.int .i64 n') h0
  have h2 := heap_setCell_same _ b 2 _ _ (.string s') h1
  have h3 := heap_setCell_same _ b 3 _ _ (.slice none 0 0) h2
  exact heap_setCell_same _ b 4 _ _ (.slice none 0 0) h3
theorem Moved.set5 {P : Nat} {a b : World} {s : ByteArray} {k : Nat} (h : Moved P a b s k) {g : Nat} (hg : a.heap.size ≤ g) (hP : P < a.heap.size) (v0 v1 v2 v3 v4 : Value) :
    Moved P a (((((b.setCell ⟨g, 0, none⟩ v0).setCell ⟨g, 1, none⟩ v1).setCell ⟨g, 2, none⟩ v2).setCell ⟨g, 3, none⟩ v3).setCell ⟨g, 4, none⟩ v4) s k :=
  ((((h.setNew hg hP _ _).setNew hg hP _ _).setNew hg hP _ _).setNew hg hP _ _).setNew hg hP _ _
/-- A reader that has come to j, and a new value's block that is still empty. -/
structure Boxed (P : Nat) (w wr : World) (s : ByteArray) (j : Nat) : Prop where
  mov : Moved P w wr s j
  lt : P < w.heap.size
  box : At wr w.heap.size 40 (vc 0 0 ⟨#[]⟩)
theorem Boxed.new {P : Nat} {w : World} {s : ByteArray} {k : Nat} (hR : RdAt w P s k) : Boxed P w (w.alloc (.cells (vc 0 0 ⟨#[]⟩) 40)) s k :=
  ⟨(Moved.refl hR).below (At.lt hR) (below_box _ _), At.lt hR, At.new _ _ _ rfl⟩
theorem Boxed.moved {P : Nat} {w a b : World} {s : ByteArray} {j i : Nat} (h : Boxed P w a s j) (m : Moved P a b s i) : Boxed P w b s i :=
  ⟨h.mov.trans m, h.lt, m.keep.at h.box (by have := h.lt; omega)⟩
theorem Boxed.below {P : Nat} {w a b : World} {s : ByteArray} {j : Nat} (h : Boxed P w a s j) (hb : Below a.heap.size a b) : Boxed P w b s j :=
  h.moved ⟨.of hb, At.later h.mov.at_ hb⟩
theorem Boxed.env {m : Int} {P : Nat} {w a : World} {s : ByteArray} {j : Nat} (h : Boxed P w a s j) (hE : Env m P w) : Env m P a := hE.moved h.mov h.lt
theorem Boxed.fill {P : Nat} {w a : World} {s : ByteArray} {j : Nat} (h : Boxed P w a s j) (k n : Int) (t : ByteArray) :
    let wf := ((((a.setCell ⟨w.heap.size, 0, none⟩ (.int .i64 k)).setCell ⟨w.heap.size, 1, none⟩ (.int .i64 n)).setCell ⟨w.heap.size, 2, none⟩ (.string t)).setCell ⟨w.heap.size, 3, none⟩ (.slice none 0 0)).setCell ⟨w.heap.size, 4, none⟩ (.slice none 0 0)
    Moved P w wf s j ∧ At wf w.heap.size 40 (vc k n t) :=
  ⟨h.mov.set5 (Nat.le_refl _) h.lt _ _ _ _ _, h.box.vc5 k n t⟩
theorem isNull (W : ByteArray) : (W.toList == [110, 117, 108, 108]) = decide (W = wNull) := by rw [← word_beq, show wNull.toList = [110, 117, 108, 108] by rw [ByteArray.toList_eq]; rfl]
theorem isTrue (W : ByteArray) : (W.toList == [116, 114, 117, 101]) = decide (W = wTrue) := by rw [← word_beq, show wTrue.toList = [116, 114, 117, 101] by rw [ByteArray.toList_eq]; rfl]
theorem isFalse (W : ByteArray) : (W.toList == [102, 97, 108, 115, 101]) = decide (W = wFalse) := by rw [← word_beq, show wFalse.toList = [102, 97, 108, 115, 101] by rw [ByteArray.toList_eq]; rfl]
theorem yWordLe {s : ByteArray} {k : Nat} (hk : k ≤ s.size) : k + (wordP s k).size ≤ s.size := by have := (wordP_size hk).2; omega
set_option maxHeartbeats 4000000 in
theorem yOther (m : Int) (P : Nat) (s : ByteArray) (k : Nat) (w : World) (hE : Env m P w) (hR : RdAt w P s k) (hk : k ≤ s.size) (hs : s.size ≤ 100000) :
    Calls Tryz.prog 95 #[.pointer (some ⟨P, 0, none⟩)] w fun e w' =>
      e = .returned (.tuple #[.agg (vc (otherK s k).1 (otherK s k).2.1 eB), errN (otherK s k).2.2.1]) ∧ Moved P w w' s (otherK s k).2.2.2 := by
  have hPl : P < w.heap.size := At.lt hR
  have hle := yWordLe hk
  obtain ⟨W, hW⟩ : ∃ W, wordP s k = W := ⟨_, rfl⟩
  have HW := hid hW
  rw [hW] at hle
  obtain ⟨K, hK⟩ : ∃ K, otherK s k = K := ⟨_, rfl⟩
  rw [hK]
  unfold otherK at hK
  rw [hW] at hK
  have HK := hid hK
  clear hK
  have hyw := fun (w : World) (h : RdAt w P s k) => yWordN P s W k w h hk hs hW
  clear hW
  have hX0 := Boxed.new hR
  by_cases h1 : W = wNull
  · have HK' := hid (show (0, 0, 0, k + W.size) = K by rw [← HK.out, if_pos h1])
    rw [← HK'.out]
    have ep := (isNull W).trans (decide_eq_true h1)
    clear HK h1
    go_enter Tryz.func95, Tryz.ntmps95
    go_wp2_with (go_at_call 139; go_must (refine (hyw _ hX0.mov.at_).mono ?_); rintro e w1 ⟨rfl, hm1⟩; (have hX1 := hX0.moved hm1); obtain ⟨⟨bx0, bx1, bx2, bx3, bx4⟩, bxf0, bxf1, bxf2, bxf3, bxf4⟩ := box5 hX1.box)
    obtain ⟨hM5, hB5⟩ := hX1.fill 0 0 ⟨#[]⟩
    generalize World.setCell _ _ _ = wf at hB5 hM5 ⊢
    obtain ⟨⟨cx0, cx1, cx2, cx3, cx4⟩, _⟩ := box5 hB5
    refine bodyPost_ret (v := .tuple #[.agg (vc 0 0 ⟨#[]⟩), errN 0]) (by simp [results, Tryz.results95, go_sem, cx0, cx1, cx2, cx3, cx4]; first | exact ⟨rfl, rfl⟩ | rfl) rfl ⟨rfl, hM5⟩
  have en1 := (isNull W).trans (decide_eq_false h1)
  by_cases h2 : W = wTrue
  · have HK' := hid (show (1, 1, 0, k + W.size) = K by rw [← HK.out, if_neg h1, if_pos h2])
    rw [← HK'.out]
    have ep := (isTrue W).trans (decide_eq_true h2)
    clear HK h2
    go_enter Tryz.func95, Tryz.ntmps95
    go_wp2_with (go_at_call 139; go_must (refine (hyw _ hX0.mov.at_).mono ?_); rintro e w1 ⟨rfl, hm1⟩; (have hX1 := hX0.moved hm1); obtain ⟨⟨bx0, bx1, bx2, bx3, bx4⟩, bxf0, bxf1, bxf2, bxf3, bxf4⟩ := box5 hX1.box)
    obtain ⟨hM5, hB5⟩ := hX1.fill 1 1 ⟨#[]⟩
    generalize World.setCell _ _ _ = wf at hB5 hM5 ⊢
    obtain ⟨⟨cx0, cx1, cx2, cx3, cx4⟩, _⟩ := box5 hB5
    refine bodyPost_ret (v := .tuple #[.agg (vc 1 1 ⟨#[]⟩), errN 0]) (by simp [results, Tryz.results95, go_sem, cx0, cx1, cx2, cx3, cx4]; first | exact ⟨rfl, rfl⟩ | rfl) rfl ⟨rfl, hM5⟩
  have en2 := (isTrue W).trans (decide_eq_false h2)
  by_cases h3 : W = wFalse
  · have HK' := hid (show (1, 0, 0, k + W.size) = K by rw [← HK.out, if_neg h1, if_neg h2, if_pos h3])
    rw [← HK'.out]
    have ep := (isFalse W).trans (decide_eq_true h3)
    clear HK h3
    go_enter Tryz.func95, Tryz.ntmps95
    go_wp2_with (go_at_call 139; go_must (refine (hyw _ hX0.mov.at_).mono ?_); rintro e w1 ⟨rfl, hm1⟩; (have hX1 := hX0.moved hm1); obtain ⟨⟨bx0, bx1, bx2, bx3, bx4⟩, bxf0, bxf1, bxf2, bxf3, bxf4⟩ := box5 hX1.box)
    obtain ⟨hM5, hB5⟩ := hX1.fill 1 0 ⟨#[]⟩
    generalize World.setCell _ _ _ = wf at hB5 hM5 ⊢
    obtain ⟨⟨cx0, cx1, cx2, cx3, cx4⟩, _⟩ := box5 hB5
    refine bodyPost_ret (v := .tuple #[.agg (vc 1 0 ⟨#[]⟩), errN 0]) (by simp [results, Tryz.results95, go_sem, cx0, cx1, cx2, cx3, cx4]; first | exact ⟨rfl, rfl⟩ | rfl) rfl ⟨rfl, hM5⟩
  have en3 := (isFalse W).trans (decide_eq_false h3)
  have HK1 := hid (show (if objL W.data.toList ≠ 0 ∧ (refP s (k + W.size)).isSome = true then ((7 : Int), ((objL W.data.toList : Nat) : Int), (0 : Int), (refP s (k + W.size)).getD (k + W.size)) else (2, parseN W.data.toList, parseE W.data.toList, k + W.size)) = K by rw [← HK.out, if_neg h1, if_neg h2, if_neg h3])
  have hobj := fun (w1 : World) (h : Env m P w1) => yObject W w1 (by omega) h.syn h.rng
  clear HK h1 h2 h3
  generalize objL W.data.toList = n at HK1 hobj
  have hpar := fun (w : World) (h : Rdy m w) => parse_rdy m W w h (by omega)
  generalize parseN W.data.toList = pn at HK1 hpar
  generalize parseE W.data.toList = pe at HK1 hpar
  have href := fun (w : World) (h : RdAt w P s (k + W.size)) => yRefers P s (k + W.size) w h (by omega) hs
  by_cases hn : n = 0
  · subst hn
    have HK' := hid (show (2, pn, pe, k + W.size) = K by rw [← HK1.out, if_neg (by simp)])
    rw [← HK'.out]
    clear HK1
    go_enter Tryz.func95, Tryz.ntmps95
    go_wp2_with (first | (go_at_call 139; go_must (refine (hyw _ hX0.mov.at_).mono ?_); rintro e w1 ⟨rfl, hm1⟩; (have hX1 := hX0.moved hm1); obtain ⟨⟨bx0, bx1, bx2, bx3, bx4⟩, bxf0, bxf1, bxf2, bxf3, bxf4⟩ := box5 hX1.box) | (go_at_call 149; go_must (refine (hobj _ (hX1.env hE)).mono ?_); rintro e w2 ⟨rfl, hb2⟩; (have hX2 := hX1.below hb2); obtain ⟨⟨by0, by1, by2, by3, by4⟩, byf0, byf1, byf2, byf3, byf4⟩ := box5 hX2.box) | (go_at_call 151; go_must (refine (hpar _ (hX2.env hE).rdy).mono ?_); rintro e w4 ⟨rfl, hb4, hr4⟩; (have hX4 := hX2.below hb4); obtain ⟨⟨bu0, bu1, bu2, bu3, bu4⟩, buf0, buf1, buf2, buf3, buf4⟩ := box5 hX4.box))
    obtain ⟨hM5, hB5⟩ := hX4.fill 2 pn ⟨#[]⟩
    generalize World.setCell _ _ _ = wf at hB5 hM5 ⊢
    obtain ⟨⟨cx0, cx1, cx2, cx3, cx4⟩, _⟩ := box5 hB5
    refine bodyPost_ret (v := .tuple #[.agg (vc 2 pn ⟨#[]⟩), errN pe]) (by simp [results, Tryz.results95, go_sem, cx0, cx1, cx2, cx3, cx4]; first | exact ⟨rfl, rfl⟩ | rfl) rfl ⟨rfl, hM5⟩
  have hn0 : (0 : Int) < (n : Int) := by omega
  cases hr : (refP s (k + W.size)).isSome
  · have HK' := hid (show (2, pn, pe, k + W.size) = K by rw [← HK1.out, if_neg (by rw [hr]; simp)])
    rw [← HK'.out]
    have hj : (refP s (k + W.size)).getD (k + W.size) = k + W.size := by
      cases h : refP s (k + W.size) with
      | none => rfl
      | some x => rw [h] at hr; simp at hr
    rw [hr, hj] at href
    clear HK1 hr hj
    go_enter Tryz.func95, Tryz.ntmps95
    go_wp2_with (first | (go_at_call 139; go_must (refine (hyw _ hX0.mov.at_).mono ?_); rintro e w1 ⟨rfl, hm1⟩; (have hX1 := hX0.moved hm1); obtain ⟨⟨bx0, bx1, bx2, bx3, bx4⟩, bxf0, bxf1, bxf2, bxf3, bxf4⟩ := box5 hX1.box) | (go_at_call 149; go_must (refine (hobj _ (hX1.env hE)).mono ?_); rintro e w2 ⟨rfl, hb2⟩; (have hX2 := hX1.below hb2); obtain ⟨⟨by0, by1, by2, by3, by4⟩, byf0, byf1, byf2, byf3, byf4⟩ := box5 hX2.box) | (go_at_call 150; go_must (refine (href _ hX2.mov.at_).mono ?_); rintro e w3 ⟨rfl, hm3⟩; (have hX3 := hX2.moved hm3); obtain ⟨⟨bz0, bz1, bz2, bz3, bz4⟩, bzf0, bzf1, bzf2, bzf3, bzf4⟩ := box5 hX3.box) | (go_at_call 151; go_must (refine (hpar _ (hX3.env hE).rdy).mono ?_); rintro e w4 ⟨rfl, hb4, hr4⟩; (have hX4 := hX3.below hb4); obtain ⟨⟨bu0, bu1, bu2, bu3, bu4⟩, buf0, buf1, buf2, buf3, buf4⟩ := box5 hX4.box))
    obtain ⟨hM5, hB5⟩ := hX4.fill 2 pn ⟨#[]⟩
    generalize World.setCell _ _ _ = wf at hB5 hM5 ⊢
    obtain ⟨⟨cx0, cx1, cx2, cx3, cx4⟩, _⟩ := box5 hB5
    refine bodyPost_ret (v := .tuple #[.agg (vc 2 pn ⟨#[]⟩), errN pe]) (by simp [results, Tryz.results95, go_sem, cx0, cx1, cx2, cx3, cx4]; first | exact ⟨rfl, rfl⟩ | rfl) rfl ⟨rfl, hM5⟩
  · have HK' := hid (show (7, (n : Int), 0, (refP s (k + W.size)).getD (k + W.size)) = K by rw [← HK1.out, if_pos ⟨hn, hr⟩])
    rw [← HK'.out]
    rw [hr] at href
    generalize (refP s (k + W.size)).getD (k + W.size) = j at href ⊢
    clear HK1 hr HK'
    go_enter Tryz.func95, Tryz.ntmps95
    go_wp2_with (first | (go_at_call 139; go_must (refine (hyw _ hX0.mov.at_).mono ?_); rintro e w1 ⟨rfl, hm1⟩; (have hX1 := hX0.moved hm1); obtain ⟨⟨bx0, bx1, bx2, bx3, bx4⟩, bxf0, bxf1, bxf2, bxf3, bxf4⟩ := box5 hX1.box) | (go_at_call 149; go_must (refine (hobj _ (hX1.env hE)).mono ?_); rintro e w2 ⟨rfl, hb2⟩; (have hX2 := hX1.below hb2); obtain ⟨⟨by0, by1, by2, by3, by4⟩, byf0, byf1, byf2, byf3, byf4⟩ := box5 hX2.box) | (go_at_call 150; go_must (refine (href _ hX2.mov.at_).mono ?_); rintro e w3 ⟨rfl, hm3⟩; (have hX3 := hX2.moved hm3); obtain ⟨⟨bz0, bz1, bz2, bz3, bz4⟩, bzf0, bzf1, bzf2, bzf3, bzf4⟩ := box5 hX3.box))
    obtain ⟨hM5, hB5⟩ := hX3.fill 7 n ⟨#[]⟩
    generalize World.setCell _ _ _ = wf at hB5 hM5 ⊢
    obtain ⟨⟨cx0, cx1, cx2, cx3, cx4⟩, _⟩ := box5 hB5
    refine bodyPost_ret (v := .tuple #[.agg (vc 7 n ⟨#[]⟩), errN 0]) (by simp [results, Tryz.results95, go_sem, cx0, cx1, cx2, cx3, cx4]; first | exact ⟨rfl, rfl⟩ | rfl) rfl ⟨rfl, hM5⟩
end Go.Proofs.YtflcibmjblioaaaGreatDoor
