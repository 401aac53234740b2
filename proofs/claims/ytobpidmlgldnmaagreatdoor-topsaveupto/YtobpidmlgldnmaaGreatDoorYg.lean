/-
  Joined: Ye, Yf, Yg.
-/
import Derived.Test.YtobpidmlgldnmaaGreatDoorYd

/-
  The program's reader: what stands behind a backslash.
-/
namespace Go.Proofs.YtobpidmlgldnmaaGreatDoor
open Go.RowKit
set_option maxRecDepth 100000

/-- The reader has come that far; below B all else is as it was. -/
structure MovB (B P : Nat) (w w' : World) (s : ByteArray) (k : Nat) : Prop where
  os : w'.os = w.os
  tape : w'.tape = w.tape
  output : w'.output = w.output
  size : w.heap.size ≤ w'.heap.size
  block : ∀ i, i < B → i ≠ P → w'.heap[i]? = w.heap[i]?
  at_ : RdAt w' P s k
theorem Moved.toB {B P : Nat} {w w' : World} {s : ByteArray} {k : Nat} (h : Moved P w w' s k) (hB : B ≤ w.heap.size) : MovB B P w w' s k :=
  ⟨h.keep.os, h.keep.tape, h.keep.output, h.keep.size, fun i hi hp => h.keep.block i (Nat.lt_of_lt_of_le hi hB) hp, h.at_⟩
theorem MovB.kept {B P : Nat} {a b c : World} {s : ByteArray} {k : Nat} (h : MovB B P a b s k) (g : Kept8 B b c) : MovB B P a c s k :=
  ⟨g.below.os.trans h.os, g.below.tape.trans h.tape, g.below.output.trans h.output, Nat.le_trans h.size g.size, fun i hi hp => (g.below.block i hi).trans (h.block i hi hp), g.at (by decide) h.at_⟩
theorem MovB.trans {B P : Nat} {a b c : World} {s : ByteArray} {k j : Nat} (h : MovB B P a b s k) (g : MovB B P b c s j) : MovB B P a c s j :=
  ⟨g.os.trans h.os, g.tape.trans h.tape, g.output.trans h.output, Nat.le_trans h.size g.size, fun i hi hp => (g.block i hi hp).trans (h.block i hi hp), g.at_⟩
theorem MovB.to {P : Nat} {a b : World} {s : ByteArray} {k : Nat} (h : MovB a.heap.size P a b s k) : Moved P a b s k :=
  ⟨⟨h.os, h.tape, h.output, h.size, h.block⟩, h.at_⟩
theorem Moved.toB' {P : Nat} {a b : World} {s : ByteArray} {k : Nat} (h : Moved P a b s k) : MovB a.heap.size P a b s k := h.toB (Nat.le_refl _)
theorem Own8.moved {w w' : World} {B P : Nat} {v : Value} {xs : List UInt8} {s : ByteArray} {k j : Nat} (h : Own8 w B v xs) (hR : RdAt w P s k) (hm : Moved P w w' s j) : Own8 w' B v xs := by
  refine World.ownsRow.kept h (row := some P) ⟨hm.keep.os, hm.keep.tape, hm.keep.output, hm.keep.size, fun i hi hp => hm.keep.block i hi (fun e => hp (by rw [e]))⟩ (.inr (fun e => ?_))
  obtain ⟨c, fz, hc⟩ := own8_kind h P e
  have h2 := (show w.heap[P]? = _ from hR).symm.trans hc
  cases h2
theorem octR_none {l : List UInt8} (h : octN 3 l = 0) : octR l = -1 := by unfold octR; rw [if_pos h]
theorem octR_some {l : List UInt8} (h : octN 3 l ≠ 0) : octR l = (octV 3 l 0 : Nat) := by unfold octR; rw [if_neg h]
theorem octV_lt : ∀ (m : Nat) (l : List UInt8) (n : Nat), octV m l n < (n + 1) * 8 ^ m
  | 0, _, n => by simp [octV]
  | m + 1, [], n => by
    have h1 : 1 ≤ 8 ^ (m + 1) := Nat.one_le_pow _ _ (by omega)
    have h2 : (n + 1) * 1 ≤ (n + 1) * 8 ^ (m + 1) := Nat.mul_le_mul_left _ h1
    show n < _
    omega
  | m + 1, c :: r, n => by
    unfold octV
    split
    · rename_i h
      have hc := (isOct_iff c).1 h
      have := octV_lt m r (8 * n + (c.toNat - 48))
      have h3 : (8 * n + (c.toNat - 48) + 1) * 8 ^ m ≤ (8 * (n + 1)) * 8 ^ m := Nat.mul_le_mul_right _ (by omega)
      have h4 : (n + 1) * 8 ^ (m + 1) = 8 * (n + 1) * 8 ^ m := by rw [Nat.pow_succ, Nat.mul_comm (8 ^ m) 8, ← Nat.mul_assoc, Nat.mul_comm (n + 1) 8]
      omega
    · have h1 : 1 ≤ 8 ^ (m + 1) := Nat.one_le_pow _ _ (by omega)
      have h2 : (n + 1) * 1 ≤ (n + 1) * 8 ^ (m + 1) := Nat.mul_le_mul_left _ h1
      omega
theorem yOctNone (P : Nat) (s : ByteArray) (k : Nat) (w : World) (hR : RdAt w P s k) (hk : k ≤ s.size) (hs : s.size ≤ 100000) (h : octN 3 (s.data.toList.drop k) = 0) :
    Calls Tryz.prog 133 #[.pointer (some ⟨P, 0, none⟩)] w fun e w' => e = .returned (.int .i64 (-1)) ∧ Moved P w w' s k := by
  have q := yOctal P s k w hR hk hs
  rw [octR_none h, h] at q; exact q
theorem yOctSome (P : Nat) (s : ByteArray) (k : Nat) (w : World) (hR : RdAt w P s k) (hk : k ≤ s.size) (hs : s.size ≤ 100000) (h : octN 3 (s.data.toList.drop k) ≠ 0) :
    Calls Tryz.prog 133 #[.pointer (some ⟨P, 0, none⟩)] w fun e w' => e = .returned (.int .i64 (octV 3 (s.data.toList.drop k) 0 : Nat)) ∧ Moved P w w' s (k + octN 3 (s.data.toList.drop k)) := by
  have q := yOctal P s k w hR hk hs
  rw [octR_some h] at q; exact q
theorem escL_cons (e : UInt8) (r : List UInt8) : escL (e :: r) = if isOct e then some ([UInt8.ofNat (octV 3 (e :: r) 0 % 256)], octN 3 (e :: r))
    else if e == 110 then some ([10], 1) else if e == 114 then some ([13], 1) else if e == 116 then some ([9], 1) else if e == 98 then some ([8], 1) else if e == 102 then some ([12], 1)
    else if e == 10 then some ([], 1) else if e == 13 then some ([], if r.head? = some 10 then 2 else 1) else some ([e], 1) := rfl
set_option maxHeartbeats 400000 in
theorem yEscEnd (P : Nat) (s : ByteArray) (sv : Value) (w : World) (hR : RdAt w P s s.size) (hs : s.size ≤ 100000) :
    Calls Tryz.prog 113 #[.pointer (some ⟨P, 0, none⟩), sv] w fun e w' => e = .returned (.tuple #[.slice none 0 0, .iface 68 (.int .i64 5)]) ∧ Moved P w w' s s.size := by
  have HO := hid (show octN 3 (s.data.toList.drop s.size) = 0 by rw [drop_all s _ (Nat.le_refl _), octN_nil])
  go_enter Tryz.func113, Tryz.ntmps113
  go_wp2_with (first
    | (go_at_call 133; refine (yOctNone P s s.size _ hR (Nat.le_refl _) hs HO.out).mono ?_; rintro e w1 ⟨rfl, hm⟩)
    | (go_at_call 112; refine (yTakeEnd P s _ hm.at_).mono ?_; rintro e w2 ⟨rfl, hm2⟩))
  go_ret2
  exact ⟨rfl, hm.trans hm2⟩
set_option maxHeartbeats 400000 in
theorem yEscOct (P : Nat) (s : ByteArray) (k B : Nat) (sv : Value) (xs : List UInt8) (w : World) (hR : RdAt w P s k) (hk : k < s.size) (hs : s.size ≤ 100000) (hown : Own8 w B sv xs) (hB : B ≤ w.heap.size) (hl : xs.length ≤ 100000000) (ho : isOct s[k] = true) :
    Calls Tryz.prog 113 #[.pointer (some ⟨P, 0, none⟩), sv] w fun e w' => ∃ v', e = .returned (.tuple #[v', .nilIface]) ∧ Own8 w' B v' (xs ++ [UInt8.ofNat (octV 3 (s.data.toList.drop k) 0 % 256)]) ∧ MovB B P w w' s (k + octN 3 (s.data.toList.drop k)) := by
  have HO := hid (show octN 3 (s.data.toList.drop k) ≠ 0 by rw [drop_at s k hk, octN_cons, if_pos ho]; omega)
  have hv : octV 3 (s.data.toList.drop k) 0 < (0 + 1) * 8 ^ 3 := octV_lt 3 _ 0
  have HC := hid (fun (w : World) (h : RdAt w P s k) => yOctSome P s k w h (by omega) hs HO.out)
  generalize octV 3 (s.data.toList.drop k) 0 = n at *
  generalize octN 3 (s.data.toList.drop k) = m at *
  obtain ⟨y, hy, hyy⟩ : ∃ y : UInt8, (y.toNat : Int) = (n : Int) % 256 ∧ UInt8.ofNat (n % 256) = y := ⟨_, by simp only [UInt8.toNat_ofNat']; omega, rfl⟩
  rw [hyy]
  clear hyy ho
  have hv' : (n : Int) < 512 := by omega
  go_enter Tryz.func113, Tryz.ntmps113
  go_wp2_with (first
    | (go_at_call 133; refine (HC.out _ hR).mono ?_; rintro e w1 ⟨rfl, hm⟩)
    | (at_builtin; refine wpApp8 rfl (.tmp 13) (.tmp 16) rfl B _ xs rfl (hown.moved hR hm) _ [y] 1 1 rfl rfl ?cc (by omega) (Nat.le_trans hB hm.keep.size) ?_))
  case cc => first | exact one8 hy | (unfold byteV; rw [hy])
  intro v2 w2 hown2 hk2
  go_wp2
  go_ret2
  exact ⟨_, rfl, hown2, (hm.toB hB).kept hk2⟩
set_option maxHeartbeats 400000 in
theorem yEscN (P : Nat) (s : ByteArray) (k B : Nat) (sv : Value) (xs : List UInt8) (w : World) (hR : RdAt w P s k) (hk : k < s.size) (hs : s.size ≤ 100000) (hown : Own8 w B sv xs) (hB : B ≤ w.heap.size) (hl : xs.length ≤ 100000000) (hc : s[k] = 110) :
    Calls Tryz.prog 113 #[.pointer (some ⟨P, 0, none⟩), sv] w fun e w' => ∃ v', e = .returned (.tuple #[v', .nilIface]) ∧ Own8 w' B v' (xs ++ [10]) ∧ MovB B P w w' s (k + 1) := by
  have HO := hid (show octN 3 (s.data.toList.drop k) = 0 by rw [drop_at s k hk, octN_cons, hc]; rfl)
  have q0 : (s[k].toNat : Int) = 110 := by rw [hc]; rfl
  clear hc
  go_enter Tryz.func113, Tryz.ntmps113
  go_wp2_with (first
    | (go_at_call 133; refine (yOctNone P s k _ hR (by omega) hs HO.out).mono ?_; rintro e w1 ⟨rfl, hm⟩)
    | (go_at_call 112; refine (yTake P s k _ hm.at_ hk hs).mono ?_; rintro e w2 ⟨rfl, hm2⟩)
    | (at_builtin; refine wpApp8 rfl (.tmp 52) (.tmp 54) rfl B _ xs rfl ((hown.moved hR hm).moved hm.at_ hm2) _ [10] 1 1 rfl rfl rfl (by omega) (Nat.le_trans (Nat.le_trans hB hm.keep.size) hm2.keep.size) ?_; intro v3 w3 hown3 hk3))
  go_ret2
  exact ⟨_, rfl, hown3, ((hm.trans hm2).toB hB).kept hk3⟩
set_option maxHeartbeats 400000 in
theorem yEscR (P : Nat) (s : ByteArray) (k B : Nat) (sv : Value) (xs : List UInt8) (w : World) (hR : RdAt w P s k) (hk : k < s.size) (hs : s.size ≤ 100000) (hown : Own8 w B sv xs) (hB : B ≤ w.heap.size) (hl : xs.length ≤ 100000000) (hc : s[k] = 114) :
    Calls Tryz.prog 113 #[.pointer (some ⟨P, 0, none⟩), sv] w fun e w' => ∃ v', e = .returned (.tuple #[v', .nilIface]) ∧ Own8 w' B v' (xs ++ [13]) ∧ MovB B P w w' s (k + 1) := by
  have HO := hid (show octN 3 (s.data.toList.drop k) = 0 by rw [drop_at s k hk, octN_cons, hc]; rfl)
  have q0 : (s[k].toNat : Int) = 114 := by rw [hc]; rfl
  clear hc
  go_enter Tryz.func113, Tryz.ntmps113
  go_wp2_with (first
    | (go_at_call 133; refine (yOctNone P s k _ hR (by omega) hs HO.out).mono ?_; rintro e w1 ⟨rfl, hm⟩)
    | (go_at_call 112; refine (yTake P s k _ hm.at_ hk hs).mono ?_; rintro e w2 ⟨rfl, hm2⟩)
    | (at_builtin; refine wpApp8 rfl (.tmp 52) (.tmp 54) rfl B _ xs rfl ((hown.moved hR hm).moved hm.at_ hm2) _ [13] 1 1 rfl rfl rfl (by omega) (Nat.le_trans (Nat.le_trans hB hm.keep.size) hm2.keep.size) ?_; intro v3 w3 hown3 hk3))
  go_ret2
  exact ⟨_, rfl, hown3, ((hm.trans hm2).toB hB).kept hk3⟩
set_option maxHeartbeats 400000 in
theorem yEscT (P : Nat) (s : ByteArray) (k B : Nat) (sv : Value) (xs : List UInt8) (w : World) (hR : RdAt w P s k) (hk : k < s.size) (hs : s.size ≤ 100000) (hown : Own8 w B sv xs) (hB : B ≤ w.heap.size) (hl : xs.length ≤ 100000000) (hc : s[k] = 116) :
    Calls Tryz.prog 113 #[.pointer (some ⟨P, 0, none⟩), sv] w fun e w' => ∃ v', e = .returned (.tuple #[v', .nilIface]) ∧ Own8 w' B v' (xs ++ [9]) ∧ MovB B P w w' s (k + 1) := by
  have HO := hid (show octN 3 (s.data.toList.drop k) = 0 by rw [drop_at s k hk, octN_cons, hc]; rfl)
  have q0 : (s[k].toNat : Int) = 116 := by rw [hc]; rfl
  clear hc
  go_enter Tryz.func113, Tryz.ntmps113
  go_wp2_with (first
    | (go_at_call 133; refine (yOctNone P s k _ hR (by omega) hs HO.out).mono ?_; rintro e w1 ⟨rfl, hm⟩)
    | (go_at_call 112; refine (yTake P s k _ hm.at_ hk hs).mono ?_; rintro e w2 ⟨rfl, hm2⟩)
    | (at_builtin; refine wpApp8 rfl (.tmp 52) (.tmp 54) rfl B _ xs rfl ((hown.moved hR hm).moved hm.at_ hm2) _ [9] 1 1 rfl rfl rfl (by omega) (Nat.le_trans (Nat.le_trans hB hm.keep.size) hm2.keep.size) ?_; intro v3 w3 hown3 hk3))
  go_ret2
  exact ⟨_, rfl, hown3, ((hm.trans hm2).toB hB).kept hk3⟩
set_option maxHeartbeats 400000 in
theorem yEscB (P : Nat) (s : ByteArray) (k B : Nat) (sv : Value) (xs : List UInt8) (w : World) (hR : RdAt w P s k) (hk : k < s.size) (hs : s.size ≤ 100000) (hown : Own8 w B sv xs) (hB : B ≤ w.heap.size) (hl : xs.length ≤ 100000000) (hc : s[k] = 98) :
    Calls Tryz.prog 113 #[.pointer (some ⟨P, 0, none⟩), sv] w fun e w' => ∃ v', e = .returned (.tuple #[v', .nilIface]) ∧ Own8 w' B v' (xs ++ [8]) ∧ MovB B P w w' s (k + 1) := by
  have HO := hid (show octN 3 (s.data.toList.drop k) = 0 by rw [drop_at s k hk, octN_cons, hc]; rfl)
  have q0 : (s[k].toNat : Int) = 98 := by rw [hc]; rfl
  clear hc
  go_enter Tryz.func113, Tryz.ntmps113
  go_wp2_with (first
    | (go_at_call 133; refine (yOctNone P s k _ hR (by omega) hs HO.out).mono ?_; rintro e w1 ⟨rfl, hm⟩)
    | (go_at_call 112; refine (yTake P s k _ hm.at_ hk hs).mono ?_; rintro e w2 ⟨rfl, hm2⟩)
    | (at_builtin; refine wpApp8 rfl (.tmp 52) (.tmp 54) rfl B _ xs rfl ((hown.moved hR hm).moved hm.at_ hm2) _ [8] 1 1 rfl rfl rfl (by omega) (Nat.le_trans (Nat.le_trans hB hm.keep.size) hm2.keep.size) ?_; intro v3 w3 hown3 hk3))
  go_ret2
  exact ⟨_, rfl, hown3, ((hm.trans hm2).toB hB).kept hk3⟩
set_option maxHeartbeats 400000 in
theorem yEscF (P : Nat) (s : ByteArray) (k B : Nat) (sv : Value) (xs : List UInt8) (w : World) (hR : RdAt w P s k) (hk : k < s.size) (hs : s.size ≤ 100000) (hown : Own8 w B sv xs) (hB : B ≤ w.heap.size) (hl : xs.length ≤ 100000000) (hc : s[k] = 102) :
    Calls Tryz.prog 113 #[.pointer (some ⟨P, 0, none⟩), sv] w fun e w' => ∃ v', e = .returned (.tuple #[v', .nilIface]) ∧ Own8 w' B v' (xs ++ [12]) ∧ MovB B P w w' s (k + 1) := by
  have HO := hid (show octN 3 (s.data.toList.drop k) = 0 by rw [drop_at s k hk, octN_cons, hc]; rfl)
  have q0 : (s[k].toNat : Int) = 102 := by rw [hc]; rfl
  clear hc
  go_enter Tryz.func113, Tryz.ntmps113
  go_wp2_with (first
    | (go_at_call 133; refine (yOctNone P s k _ hR (by omega) hs HO.out).mono ?_; rintro e w1 ⟨rfl, hm⟩)
    | (go_at_call 112; refine (yTake P s k _ hm.at_ hk hs).mono ?_; rintro e w2 ⟨rfl, hm2⟩)
    | (at_builtin; refine wpApp8 rfl (.tmp 52) (.tmp 54) rfl B _ xs rfl ((hown.moved hR hm).moved hm.at_ hm2) _ [12] 1 1 rfl rfl rfl (by omega) (Nat.le_trans (Nat.le_trans hB hm.keep.size) hm2.keep.size) ?_; intro v3 w3 hown3 hk3))
  go_ret2
  exact ⟨_, rfl, hown3, ((hm.trans hm2).toB hB).kept hk3⟩
end Go.Proofs.YtobpidmlgldnmaaGreatDoor

/-
  The program's reader: what stands behind a backslash, all ways.
-/
namespace Go.Proofs.YtobpidmlgldnmaaGreatDoor
open Go.RowKit
set_option maxRecDepth 100000

theorem MovB.set {B P : Nat} {a b : World} {s : ByteArray} {k : Nat} (h : MovB B P a b s k) {i : Int} {j : Nat} (e : i = j) : MovB B P a (b.setCell ⟨P, 1, none⟩ (.int .i64 i)) s j :=
  ⟨h.os, h.tape, h.output, by simpa [World.setCell] using h.size, fun q hq hp => (Below.heap_setCell _ _ _ _ hp).trans (h.block q hq hp), h.at_.set' e⟩
theorem Own8.set {w : World} {B P : Nat} {v : Value} {xs : List UInt8} {s : ByteArray} {k : Nat} (h : Own8 w B v xs) (hR : RdAt w P s k) (u : Value) : Own8 (w.setCell ⟨P, 1, none⟩ u) B v xs :=
  h.other (b := P) hR (by decide) 1 u
set_option maxHeartbeats 400000 in
theorem yEscLf (P : Nat) (s : ByteArray) (k B : Nat) (sv : Value) (xs : List UInt8) (w : World) (hR : RdAt w P s k) (hk : k < s.size) (hs : s.size ≤ 100000) (hown : Own8 w B sv xs) (hB : B ≤ w.heap.size) (hc : s[k] = 10) :
    Calls Tryz.prog 113 #[.pointer (some ⟨P, 0, none⟩), sv] w fun e w' => ∃ v', e = .returned (.tuple #[v', .nilIface]) ∧ Own8 w' B v' xs ∧ MovB B P w w' s (k + 1) := by
  have HO := hid (show octN 3 (s.data.toList.drop k) = 0 by rw [drop_at s k hk, octN_cons, hc]; rfl)
  have q0 : (s[k].toNat : Int) = 10 := by rw [hc]; rfl
  clear hc
  go_enter Tryz.func113, Tryz.ntmps113
  go_wp2_with (first
    | (go_at_call 133; refine (yOctNone P s k _ hR (by omega) hs HO.out).mono ?_; rintro e w1 ⟨rfl, hm⟩)
    | (go_at_call 112; refine (yTake P s k _ hm.at_ hk hs).mono ?_; rintro e w2 ⟨rfl, hm2⟩))
  go_ret2
  exact ⟨_, rfl, (hown.moved hR hm).moved hm.at_ hm2, (hm.trans hm2).toB hB⟩
theorem pre10 (l : List UInt8) : Lib.hasPrefix l [10] = decide (l.head? = some 10) := by
  cases l with
  | nil => rfl
  | cons c l =>
    unfold Lib.hasPrefix
    rw [Bool.eq_iff_iff]
    simp [List.isPrefixOf]
    exact ⟨fun h => h.symm, fun h => h.symm⟩
set_option maxHeartbeats 400000 in
theorem yEscCr (P : Nat) (s : ByteArray) (k B : Nat) (sv : Value) (xs : List UInt8) (w : World) (hR : RdAt w P s k) (hk : k < s.size) (hs : s.size ≤ 100000) (hown : Own8 w B sv xs) (hB : B ≤ w.heap.size) (hc : s[k] = 13) :
    Calls Tryz.prog 113 #[.pointer (some ⟨P, 0, none⟩), sv] w fun e w' => ∃ v', e = .returned (.tuple #[v', .nilIface]) ∧ Own8 w' B v' xs ∧ MovB B P w w' s (k + if (s.data.toList.drop (k + 1)).head? = some 10 then 2 else 1) := by
  have HO := hid (show octN 3 (s.data.toList.drop k) = 0 by rw [drop_at s k hk, octN_cons, hc]; rfl)
  have q0 : (s[k].toNat : Int) = 13 := by rw [hc]; rfl
  clear hc
  by_cases hh : (s.data.toList.drop (k + 1)).head? = some 10
  · rw [if_pos hh]
    have HA := hid (show Lib.hasPrefix (s.data.toList.drop (k + 1)) [10] = true by rw [pre10]; exact decide_eq_true hh)
    clear hh
    go_enter Tryz.func113, Tryz.ntmps113
    go_wp2_with (first
      | (go_at_call 133; refine (yOctNone P s k _ hR (by omega) hs HO.out).mono ?_; rintro e w1 ⟨rfl, hm⟩)
      | (go_at_call 112; refine (yTake P s k _ hm.at_ hk hs).mono ?_; rintro e w2 ⟨rfl, hm2⟩)
      | (go_at_call 91; refine (yAheadB P s _ (k + 1) true _ hm2.at_ (by omega) HA.out).mono ?_; rintro e w3 ⟨rfl, hm3⟩; have c1 := hm3.at_.c1; have f1 := At.free hm3.at_ 1))
    go_ret2
    exact ⟨_, rfl, (((hown.moved hR hm).moved hm.at_ hm2).moved hm2.at_ hm3).set hm3.at_ _, (((hm.trans hm2).trans hm3).toB hB).set (j := k + 2) (by omega)⟩
  · rw [if_neg hh]
    have HA := hid (show Lib.hasPrefix (s.data.toList.drop (k + 1)) [10] = false by rw [pre10]; exact decide_eq_false hh)
    clear hh
    go_enter Tryz.func113, Tryz.ntmps113
    go_wp2_with (first
      | (go_at_call 133; refine (yOctNone P s k _ hR (by omega) hs HO.out).mono ?_; rintro e w1 ⟨rfl, hm⟩)
      | (go_at_call 112; refine (yTake P s k _ hm.at_ hk hs).mono ?_; rintro e w2 ⟨rfl, hm2⟩)
      | (go_at_call 91; refine (yAheadB P s _ (k + 1) false _ hm2.at_ (by omega) HA.out).mono ?_; rintro e w3 ⟨rfl, hm3⟩))
    go_ret2
    exact ⟨_, rfl, ((hown.moved hR hm).moved hm.at_ hm2).moved hm2.at_ hm3, ((hm.trans hm2).trans hm3).toB hB⟩
theorem ne_u8 {c : UInt8} {k : Nat} (hk : k < 256) (h : ¬ c = k.toUInt8) : ((c.toNat : Int) == (k : Int)) = false := by
  rw [eq_u8 c k hk]; simpa using h
set_option maxHeartbeats 400000 in
theorem yEscElse (P : Nat) (s : ByteArray) (k B : Nat) (sv : Value) (xs : List UInt8) (w : World) (hR : RdAt w P s k) (hk : k < s.size) (hs : s.size ≤ 100000) (hown : Own8 w B sv xs) (hB : B ≤ w.heap.size) (hl : xs.length ≤ 100000000)
    (ho : ¬ isOct s[k] = true) (h1 : ¬ s[k] = 110) (h2 : ¬ s[k] = 114) (h3 : ¬ s[k] = 116) (h4 : ¬ s[k] = 98) (h5 : ¬ s[k] = 102) (h6 : ¬ s[k] = 10) (h7 : ¬ s[k] = 13) :
    Calls Tryz.prog 113 #[.pointer (some ⟨P, 0, none⟩), sv] w fun e w' => ∃ v', e = .returned (.tuple #[v', .nilIface]) ∧ Own8 w' B v' (xs ++ [s[k]]) ∧ MovB B P w w' s (k + 1) := by
  have HO := hid (show octN 3 (s.data.toList.drop k) = 0 by rw [drop_at s k hk, octN_cons, if_neg ho])
  have q1 : ((s[k].toNat : Int) == 110) = false := ne_u8 (k := 110) (by omega) h1
  have q2 : ((s[k].toNat : Int) == 114) = false := ne_u8 (k := 114) (by omega) h2
  have q3 : ((s[k].toNat : Int) == 116) = false := ne_u8 (k := 116) (by omega) h3
  have q4 : ((s[k].toNat : Int) == 98) = false := ne_u8 (k := 98) (by omega) h4
  have q5 : ((s[k].toNat : Int) == 102) = false := ne_u8 (k := 102) (by omega) h5
  have q6 : ((s[k].toNat : Int) == 10) = false := ne_u8 (k := 10) (by omega) h6
  have q7 : ((s[k].toNat : Int) == 13) = false := ne_u8 (k := 13) (by omega) h7
  clear ho h1 h2 h3 h4 h5 h6 h7
  go_enter Tryz.func113, Tryz.ntmps113
  go_wp2_with (first
    | (go_at_call 133; refine (yOctNone P s k _ hR (by omega) hs HO.out).mono ?_; rintro e w1 ⟨rfl, hm⟩)
    | (go_at_call 112; refine (yTake P s k _ hm.at_ hk hs).mono ?_; rintro e w2 ⟨rfl, hm2⟩)
    | (at_builtin; refine wpApp8 rfl (.tmp 52) (.tmp 54) rfl B _ xs rfl ((hown.moved hR hm).moved hm.at_ hm2) _ [s[k]] 1 1 rfl rfl rfl (by omega) (Nat.le_trans (Nat.le_trans hB hm.keep.size) hm2.keep.size) ?_; intro v3 w3 hown3 hk3))
  go_ret2
  exact ⟨_, rfl, hown3, ((hm.trans hm2).toB hB).kept hk3⟩
/-- What stands behind a backslash, all ways. -/
theorem yEscape (P : Nat) (s : ByteArray) (k B : Nat) (sv : Value) (xs x : List UInt8) (m : Nat) (w : World) (hR : RdAt w P s k) (hs : s.size ≤ 100000) (hown : Own8 w B sv xs) (hB : B ≤ w.heap.size) (hl : xs.length ≤ 100000000) (he : escL (s.data.toList.drop k) = some (x, m)) :
    Calls Tryz.prog 113 #[.pointer (some ⟨P, 0, none⟩), sv] w fun e w' => ∃ v', e = .returned (.tuple #[v', .nilIface]) ∧ Own8 w' B v' (xs ++ x) ∧ MovB B P w w' s (k + m) := by
  have hk : k < s.size := by
    by_cases h : k < s.size
    · exact h
    · rw [drop_all s k (by omega)] at he; cases he
  rw [drop_at s k hk, escL_cons] at he
  by_cases ho : isOct s[k] = true
  · rw [if_pos ho, ← drop_at s k hk] at he
    simp only [Option.some.injEq, Prod.mk.injEq] at he
    obtain ⟨rfl, rfl⟩ := he
    exact yEscOct P s k B sv xs w hR hk hs hown hB hl ho
  rw [if_neg ho] at he
  by_cases h110 : s[k] = 110
  · rw [if_pos (by simpa using h110)] at he
    simp only [Option.some.injEq, Prod.mk.injEq] at he
    obtain ⟨rfl, rfl⟩ := he
    exact yEscN P s k B sv xs w hR hk hs hown hB hl h110
  rw [if_neg (by simpa using h110)] at he
  by_cases h114 : s[k] = 114
  · rw [if_pos (by simpa using h114)] at he
    simp only [Option.some.injEq, Prod.mk.injEq] at he
    obtain ⟨rfl, rfl⟩ := he
    exact yEscR P s k B sv xs w hR hk hs hown hB hl h114
  rw [if_neg (by simpa using h114)] at he
  by_cases h116 : s[k] = 116
  · rw [if_pos (by simpa using h116)] at he
    simp only [Option.some.injEq, Prod.mk.injEq] at he
    obtain ⟨rfl, rfl⟩ := he
    exact yEscT P s k B sv xs w hR hk hs hown hB hl h116
  rw [if_neg (by simpa using h116)] at he
  by_cases h98 : s[k] = 98
  · rw [if_pos (by simpa using h98)] at he
    simp only [Option.some.injEq, Prod.mk.injEq] at he
    obtain ⟨rfl, rfl⟩ := he
    exact yEscB P s k B sv xs w hR hk hs hown hB hl h98
  rw [if_neg (by simpa using h98)] at he
  by_cases h102 : s[k] = 102
  · rw [if_pos (by simpa using h102)] at he
    simp only [Option.some.injEq, Prod.mk.injEq] at he
    obtain ⟨rfl, rfl⟩ := he
    exact yEscF P s k B sv xs w hR hk hs hown hB hl h102
  rw [if_neg (by simpa using h102)] at he
  by_cases h10 : s[k] = 10
  · rw [if_pos (by simpa using h10)] at he
    simp only [Option.some.injEq, Prod.mk.injEq] at he
    obtain ⟨rfl, rfl⟩ := he
    rw [List.append_nil]
    exact yEscLf P s k B sv xs w hR hk hs hown hB h10
  rw [if_neg (by simpa using h10)] at he
  by_cases h13 : s[k] = 13
  · rw [if_pos (by simpa using h13)] at he
    simp only [Option.some.injEq, Prod.mk.injEq] at he
    obtain ⟨rfl, rfl⟩ := he
    rw [List.append_nil]
    exact yEscCr P s k B sv xs w hR hk hs hown hB h13
  rw [if_neg (by simpa using h13)] at he
  simp only [Option.some.injEq, Prod.mk.injEq] at he
  obtain ⟨rfl, rfl⟩ := he
  exact yEscElse P s k B sv xs w hR hk hs hown hB hl ho h110 h114 h116 h98 h102 h10 h13
end Go.Proofs.YtobpidmlgldnmaaGreatDoor

/-
  The program's reader: strings in brackets.
-/
namespace Go.Proofs.YtobpidmlgldnmaaGreatDoor
open Go.RowKit
set_option maxRecDepth 100000

/-- How far a reader has come, by memory. -/
def posOf (P : Nat) (w : World) : Nat := match w.cell? ⟨P, 1, none⟩ with | some (.int _ n) => n.toNat | _ => 0
theorem RdAt.pos {w : World} {P : Nat} {s : ByteArray} {k : Nat} (h : RdAt w P s k) : posOf P w = k := by
  unfold posOf; rw [h.c1]; simp
theorem litT_step (s : ByteArray) (j deep : Nat) (b : List UInt8) (h : j < s.size) : litT (s.data.toList.drop j) deep b j =
    if s[j] == 41 then (if deep = 1 then (0, b, j + 1) else litT (s.data.toList.drop (j + 1)) (deep - 1) (b ++ [s[j]]) (j + 1))
    else if s[j] == 40 then litT (s.data.toList.drop (j + 1)) (deep + 1) (b ++ [s[j]]) (j + 1)
    else if s[j] == 92 then
      match escL (s.data.toList.drop (j + 1)) with
      | none => (5, [], 0)
      | some (x, m) => litT (s.data.toList.drop (j + 1 + m)) deep (b ++ x) (j + 1 + m)
    else litT (s.data.toList.drop (j + 1)) deep (b ++ [s[j]]) (j + 1) := by
  rw [drop_at s j h, litT_cons]
  cases he : escL (s.data.toList.drop (j + 1)) with
  | none => rfl
  | some q =>
    obtain ⟨x, m⟩ := q
    simp only [List.drop_drop]
set_option maxHeartbeats 2000000 in
theorem yPlain (P : Nat) (s : ByteArray) (k : Nat) (w : World) (hR : RdAt w P s k) (hk : k < s.size) (hs : s.size ≤ 100000) :
    Calls Tryz.prog 94 #[.pointer (some ⟨P, 0, none⟩)] w fun e w' => ∃ v' j', e = .returned (.tuple #[v', errN (litT (s.data.toList.drop (k + 1)) 1 [] (k + 1)).1]) ∧ Own8 w' w.heap.size v' (litT (s.data.toList.drop (k + 1)) 1 [] (k + 1)).2.1 ∧ Moved P w w' s j' ∧ Hid ((litT (s.data.toList.drop (k + 1)) 1 [] (k + 1)).1 = 0 → j' = (litT (s.data.toList.drop (k + 1)) 1 [] (k + 1)).2.2 ∧ j' ≤ s.size) := by
  have hPl : P < w.heap.size := At.lt hR
  have c1 := hR.c1
  have f1 := At.free hR 1
  have hm0 := (Moved.refl hR).set (i := (k : Int) + 1) (j := k + 1) (by omega)
  generalize hRR : litT (s.data.toList.drop (k + 1)) 1 [] (k + 1) = R
  have HR0 := hid hRR
  clear hRR
  go_enter Tryz.func94, Tryz.ntmps94
  go_wp2
  go_loopw [4, 5] (fun bv ov wr => ∃ (j deep : Nat) (pre : List UInt8), ov = .int .i64 deep ∧ 1 ≤ deep ∧ deep ≤ j ∧ j ≤ s.size ∧ pre.length ≤ j ∧ litT (s.data.toList.drop j) deep pre j = R ∧ Own8 wr w.heap.size bv pre ∧ Moved P w wr s j) (fun _ _ wr => s.size - posOf P wr)
  case atStart => exact ⟨k + 1, 1, [], rfl, by omega, by omega, by omega, by simp, HR0.out, Own8.nil _ _, hm0⟩
  case round =>
    clear HR0 hm0 c1 f1
    obtain ⟨j, deep, pre, rfl, hd1, hdj, hj, hpl, hT, hown, hM⟩ := hrel
    have HT := hid hT
    clear hT
    have hbs := hM.keep.size
    have HPOS := hid hM.at_.pos
    by_cases hlt : j < s.size
    · have HS := hid (litT_step s j deep pre hlt)
      have HTS := hid (HS.out.symm.trans HT.out)
      clear HS HT
      have hc := s[j].toNat_lt
      by_cases h41 : s[j] = 41
      · have q41 : (s[j].toNat : Int) = 41 := by rw [h41]; rfl
        by_cases hd : deep = 1
        · have HRN := hid (show (0, pre, j + 1) = R by
            have h1 := HTS.out
            rw [if_pos (by simpa using h41), if_pos hd] at h1; exact h1)
          have hd' : (deep : Int) = 1 := by omega
          clear HTS h41
          go_wp2_with (go_at_call 112; refine (yTake P s j _ hM.at_ hlt hs).mono ?_; rintro e w2 ⟨rfl, hm2⟩)
          go_ret2
          rw [← HRN.out]
          exact ⟨_, j + 1, rfl, hown.moved hM.at_ hm2, hM.trans hm2, fun _ => ⟨rfl, by omega⟩⟩
        · have HRN := hid (show litT (s.data.toList.drop (j + 1)) (deep - 1) (pre ++ [41]) (j + 1) = R by
            have h1 := HTS.out
            rw [if_pos (by simpa using h41), if_neg hd, h41] at h1; exact h1)
          have hd' : (((deep : Int) - 1) == 0) = false := by simpa using (show ¬ (deep : Int) - 1 = 0 by omega)
          clear HTS h41
          go_wp2_with (first
            | (go_at_call 112; refine (yTake P s j _ hM.at_ hlt hs).mono ?_; rintro e w2 ⟨rfl, hm2⟩)
            | (at_builtin; refine wpApp8 rfl (.tmp 46) (.tmp 48) rfl w.heap.size _ pre rfl (hown.moved hM.at_ hm2) _ [41] 1 1 rfl rfl rfl (by omega) (Nat.le_trans hbs hm2.keep.size) ?_; intro v3 w3 hown3 hk3))
          go_roundw
          case rel =>
            exact ⟨j + 1, deep - 1, pre ++ [41], by go_num, by omega, by omega, by omega, by simp; omega, HRN.out, hown3, ((hM.toB'.trans (hm2.toB hbs)).kept hk3).to⟩
          case measure =>
            have e1 := ((hM.toB'.trans (hm2.toB hbs)).kept hk3).at_.pos
            have e2 := HPOS.out
            rw [e1, e2]; omega
      · have n41 : ((s[j].toNat : Int) == 41) = false := ne_u8 (k := 41) (by omega) h41
        by_cases h40 : s[j] = 40
        · have q40 : (s[j].toNat : Int) = 40 := by rw [h40]; rfl
          have HRN := hid (show litT (s.data.toList.drop (j + 1)) (deep + 1) (pre ++ [40]) (j + 1) = R by
            have h1 := HTS.out
            rw [if_neg (by simpa using h41), if_pos (by simpa using h40), h40] at h1; exact h1)
          have hd' : (((deep : Int) + 1) == 0) = false := by simpa using (show ¬ (deep : Int) + 1 = 0 by omega)
          clear HTS h41 h40 n41
          go_wp2_with (first
            | (go_at_call 112; refine (yTake P s j _ hM.at_ hlt hs).mono ?_; rintro e w2 ⟨rfl, hm2⟩)
            | (at_builtin; refine wpApp8 rfl (.tmp 46) (.tmp 48) rfl w.heap.size _ pre rfl (hown.moved hM.at_ hm2) _ [40] 1 1 rfl rfl rfl (by omega) (Nat.le_trans hbs hm2.keep.size) ?_; intro v3 w3 hown3 hk3))
          go_roundw
          case rel =>
            exact ⟨j + 1, deep + 1, pre ++ [40], by go_num, by omega, by omega, by omega, by simp; omega, HRN.out, hown3, ((hM.toB'.trans (hm2.toB hbs)).kept hk3).to⟩
          case measure =>
            have e1 := ((hM.toB'.trans (hm2.toB hbs)).kept hk3).at_.pos
            have e2 := HPOS.out
            rw [e1, e2]; omega
        · have n40 : ((s[j].toNat : Int) == 40) = false := ne_u8 (k := 40) (by omega) h40
          by_cases h92 : s[j] = 92
          · have q92 : (s[j].toNat : Int) = 92 := by rw [h92]; rfl
            have HRN := hid (show (match escL (s.data.toList.drop (j + 1)) with
                | none => (5, [], 0)
                | some (x, m) => litT (s.data.toList.drop (j + 1 + m)) deep (pre ++ x) (j + 1 + m)) = R by
              have h1 := HTS.out
              rw [if_neg (by simpa using h41), if_neg (by simpa using h40), if_pos (by simpa using h92)] at h1; exact h1)
            clear HTS h41 h40 h92 n41 n40
            cases he : escL (s.data.toList.drop (j + 1)) with
            | none =>
              have HRE := hid (show (5, [], 0) = R by have h1 := HRN.out; rw [he] at h1; exact h1)
              have hje : j + 1 = s.size := by
                by_cases h : j + 1 < s.size
                · rw [drop_at s (j + 1) h, escL_cons] at he
                  (repeat' split at he) <;> cases he
                · omega
              have HE := hid (fun (w : World) (sv : Value) (h : RdAt w P s (j + 1)) => yEscEnd P s sv w (by rw [← hje]; exact h) hs)
              clear HRN he
              go_wp2_with (first
                | (go_at_call 112; refine (yTake P s j _ hM.at_ hlt hs).mono ?_; rintro e w2 ⟨rfl, hm2⟩)
                | (go_at_call 113; refine (HE.out _ _ hm2.at_).mono ?_; rintro e w3 ⟨rfl, hm3⟩))
              go_ret2
              rw [← HRE.out]
              exact ⟨_, s.size, rfl, Own8.nil _ _, (hM.trans hm2).trans hm3, fun h => by cases h⟩
            | some q =>
              obtain ⟨x, m⟩ := q
              have HRE := hid (show litT (s.data.toList.drop (j + 1 + m)) deep (pre ++ x) (j + 1 + m) = R by have h1 := HRN.out; rw [he] at h1; exact h1)
              obtain ⟨hm1, hml, hxl⟩ := escL_le he
              have hml' : j + 1 + m ≤ s.size := by rw [List.length_drop, ba_len] at hml; omega
              have HE := hid (fun (w1 : World) (sv : Value) (h : RdAt w1 P s (j + 1)) (ho : Own8 w1 w.heap.size sv pre) (hb : w.heap.size ≤ w1.heap.size) => yEscape P s (j + 1) w.heap.size sv pre x m w1 h hs ho hb (by omega) he)
              clear HRN he hml
              go_wp2_with (first
                | (go_at_call 112; refine (yTake P s j _ hM.at_ hlt hs).mono ?_; rintro e w2 ⟨rfl, hm2⟩)
                | (go_at_call 113; refine (HE.out _ _ hm2.at_ (hown.moved hM.at_ hm2) (Nat.le_trans hbs hm2.keep.size)).mono ?_; rintro e w3 ⟨v3, rfl, hown3, hm3⟩))
              go_roundw
              case rel =>
                exact ⟨j + 1 + m, deep, pre ++ x, rfl, hd1, by omega, by omega, by rw [List.length_append]; omega, HRE.out, hown3, ((hM.toB'.trans (hm2.toB hbs)).trans hm3).to⟩
              case measure =>
                have e1 := hm3.at_.pos
                have e2 := HPOS.out
                rw [e1, e2]; omega
          · have n92 : ((s[j].toNat : Int) == 92) = false := ne_u8 (k := 92) (by omega) h92
            have HRN := hid (show litT (s.data.toList.drop (j + 1)) deep (pre ++ [s[j]]) (j + 1) = R by
              have h1 := HTS.out
              rw [if_neg (by simpa using h41), if_neg (by simpa using h40), if_neg (by simpa using h92)] at h1; exact h1)
            have hd' : ((deep : Int) == 0) = false := by simpa using (show ¬ (deep : Int) = 0 by omega)
            clear HTS h41 h40 h92
            go_wp2_with (first
              | (go_at_call 112; refine (yTake P s j _ hM.at_ hlt hs).mono ?_; rintro e w2 ⟨rfl, hm2⟩)
              | (at_builtin; refine wpApp8 rfl (.tmp 46) (.tmp 48) rfl w.heap.size _ pre rfl (hown.moved hM.at_ hm2) _ [s[j]] 1 1 rfl rfl rfl (by omega) (Nat.le_trans hbs hm2.keep.size) ?_; intro v3 w3 hown3 hk3))
            go_roundw
            case rel =>
              exact ⟨j + 1, deep, pre ++ [s[j]], rfl, hd1, by omega, by omega, by simp; omega, HRN.out, hown3, ((hM.toB'.trans (hm2.toB hbs)).kept hk3).to⟩
            case measure =>
              have e1 := ((hM.toB'.trans (hm2.toB hbs)).kept hk3).at_.pos
              have e2 := HPOS.out
              rw [e1, e2]; omega
    · have hje : j = s.size := by omega
      have HRE := hid (show (5, [], 0) = R by have h1 := HT.out; rw [drop_all s j (by omega), litT_nil] at h1; exact h1)
      have HE := hid (fun (w : World) (h : RdAt w P s j) => yTakeEnd P s w (by rw [← hje]; exact h))
      go_wp2_with (go_at_call 112; refine (HE.out _ hM.at_).mono ?_; rintro e w2 ⟨rfl, hm2⟩)
      go_ret2
      rw [← HRE.out]
      exact ⟨_, s.size, rfl, Own8.nil _ _, hM.trans hm2, fun h => by cases h⟩
end Go.Proofs.YtobpidmlgldnmaaGreatDoor
