/-
  Joined: Yd, Ye, Yf.
-/
import Derived.Test.YtflcibmjblioaaaGreatDoorYc

/-
  The program's reader: digits to the base 8, and what stands behind a backslash.
-/
namespace Go.Proofs.YtflcibmjblioaaaGreatDoor
open Go.RowKit
set_option maxRecDepth 100000

theorem drop_at (s : ByteArray) (p : Nat) (h : p < s.size) : s.data.toList.drop p = s[p] :: s.data.toList.drop (p + 1) := by
  rw [List.drop_eq_getElem_cons (by simpa using h)]; rfl
theorem octN_cons (m : Nat) (c : UInt8) (r : List UInt8) : octN (m + 1) (c :: r) = if isOct c then octN m r + 1 else 0 := rfl
theorem octV_cons (m : Nat) (c : UInt8) (r : List UInt8) (n : Nat) : octV (m + 1) (c :: r) n = if isOct c then octV m r (8 * n + (c.toNat - 48)) else n := rfl
theorem octN_nil (m : Nat) : octN m [] = 0 := by cases m <;> rfl
theorem octV_nil (m n : Nat) : octV m [] n = n := by cases m <;> rfl
theorem isOct_iff (c : UInt8) : isOct c = true ↔ 48 ≤ c.toNat ∧ c.toNat ≤ 55 := by unfold isOct; simp
/-- The number of up to three digits to the base 8; below 0: there is none. -/
def octR (l : List UInt8) : Int := if octN 3 l = 0 then -1 else (octV 3 l 0 : Nat)
def octI (m n : Nat) : Int := if m = 0 then -1 else (n : Int)
set_option maxHeartbeats 2000000 in
theorem yOctal (P : Nat) (s : ByteArray) (k : Nat) (w : World) (hR : RdAt w P s k) (hk : k ≤ s.size) (hs : s.size ≤ 100000) :
    Calls Tryz.prog 182 #[.pointer (some ⟨P, 0, none⟩)] w fun e w' => e = .returned (.int .i64 (octR (s.data.toList.drop k))) ∧ Moved P w w' s (k + octN 3 (s.data.toList.drop k)) := by
  go_enter Tryz.func182, Tryz.ntmps182
  go_wp2
  go_loopw [3, 4] (fun nv iv wr => ∃ m n : Nat, iv = .int .i64 m ∧ nv = .int .i64 (octI m n) ∧ m ≤ 3 ∧ n < 512 ∧ (m = 0 → n = 0) ∧ (m ≤ 1 → n < 8) ∧ (m ≤ 2 → n < 64) ∧ k + m ≤ s.size ∧ octN 3 (s.data.toList.drop k) = m + octN (3 - m) (s.data.toList.drop (k + m)) ∧ octV 3 (s.data.toList.drop k) 0 = octV (3 - m) (s.data.toList.drop (k + m)) n ∧ Moved P w wr s (k + m)) (fun _ iv _ => 3 - (intOf iv).toNat)
  case atStart => exact ⟨0, 0, rfl, rfl, by omega, by omega, fun _ => rfl, by omega, by omega, by omega, by simp, by simp, Moved.refl hR⟩
  case round =>
    obtain ⟨m, n, rfl, rfl, hm3, hn, hn0, hn8, hn64, hkm, hN, hV, hM⟩ := hrel
    have HN := hid hN
    have HV := hid hV
    clear hN hV
    have c0 := hM.at_.c0
    have c1 := hM.at_.c1
    have f1 := At.free hM.at_ 1
    have HRES := hid (fun (h : octN (3 - m) (s.data.toList.drop (k + m)) = 0) (h2 : octV (3 - m) (s.data.toList.drop (k + m)) n = n) => show octR (s.data.toList.drop k) = octI m n ∧ octN 3 (s.data.toList.drop k) = m by
      have e1 := HN.out
      rw [h] at e1
      have e2 := HV.out
      rw [h2] at e2
      unfold octR octI
      rw [e1, e2]
      exact ⟨rfl, rfl⟩)
    by_cases hlt : (m : Int) < 3
    · obtain ⟨q, hq⟩ : ∃ q, 3 - m = q + 1 := ⟨2 - m, by omega⟩
      by_cases hin : k + m < s.size
      · have hd := drop_at s (k + m) hin
        have hne : (((k + m : Nat) : Int) == (s.size : Int)) = false := by simpa using (show ¬ ((k + m : Nat) : Int) = s.size by omega)
        have hin' : ((k + m : Nat) : Int) < s.size := by omega
        have hin0 : (0 : Int) ≤ ((k + m : Nat) : Int) := by omega
        have hc := s[k + m].toNat_lt
        by_cases hoct : isOct s[k + m] = true
        · obtain ⟨lo, hi⟩ := (isOct_iff _).1 hoct
          have HN2 := hid (show octN 3 (s.data.toList.drop k) = m + 1 + octN (3 - (m + 1)) (s.data.toList.drop (k + (m + 1))) by
            have e := HN.out
            rw [hq, hd, octN_cons, if_pos hoct] at e
            rw [e, show 3 - (m + 1) = q by omega, show k + (m + 1) = k + m + 1 by omega]; omega)
          have HV2 := hid (show octV 3 (s.data.toList.drop k) 0 = octV (3 - (m + 1)) (s.data.toList.drop (k + (m + 1))) (8 * n + (s[k + m].toNat - 48)) by
            have e := HV.out
            rw [hq, hd, octV_cons, if_pos hoct] at e
            rw [e, show 3 - (m + 1) = q by omega, show k + (m + 1) = k + m + 1 by omega])
          clear hd hq hoct HRES
          generalize hkk : k + m = j at *
          have HKK := hid hkk
          clear hkk
          have hd1 : decide ((s[j].toNat : Int) < 48) = false := by simpa using (show (48 : Int) ≤ s[j].toNat by omega)
          have hd2 : decide ((55 : Int) < (s[j].toNat : Int)) = false := by simpa using (show (s[j].toNat : Int) ≤ 55 by omega)
          have hmx : max (octI m n) 0 = (n : Int) := by
            unfold octI
            by_cases e : m = 0
            · rw [if_pos e, hn0 e]; rfl
            · rw [if_neg e]; omega
          generalize octI m n = oi at *
          go_wp2
          go_quiet (fail)
          go_wp2
          go_quiet (fail)
          go_wp2
          go_roundw
          case rel =>
            refine ⟨m + 1, 8 * n + (s[j].toNat - 48), by go_num, ?_, by omega, ?_, by omega, by omega, by omega, by have := HKK.out; omega, HN2.out, HV2.out, ?_⟩
            · unfold octI; rw [if_neg (by omega)]; exact congrArg (Value.int .i64) (by omega)
            · omega
            · have hk2 : k + (m + 1) = j + 1 := by have := HKK.out; omega
              rw [hk2]
              exact (hM.drewN _).set (by omega)
          case measure => simp [intOf]; omega
        · have HR0 := hid (HRES.out (by rw [hq, hd, octN_cons, if_neg hoct]) (by rw [hq, hd, octV_cons, if_neg hoct]))
          have hbd : ¬ (48 ≤ s[k + m].toNat ∧ s[k + m].toNat ≤ 55) := fun h => hoct ((isOct_iff _).2 h)
          clear hd hq hoct HRES
          generalize hkk : k + m = j at *
          have HKK := hid hkk
          clear hkk
          generalize octI m n = oi at *
          by_cases hlo : (s[j].toNat : Int) < 48
          · have hd1 : decide ((s[j].toNat : Int) < 48) = true := by simpa using hlo
            go_wp2
            go_quiet (fail)
            go_wp2
            go_ret
            refine ⟨ret_int HR0.out.1.symm, ?_⟩
            rw [HR0.out.2, HKK.out]
            exact hM.drewN _
          · have hd1 : decide ((s[j].toNat : Int) < 48) = false := by simpa using hlo
            have hd2 : decide ((55 : Int) < (s[j].toNat : Int)) = true := by simpa using (show (55 : Int) < s[j].toNat by omega)
            go_wp2
            go_quiet (fail)
            go_wp2
            go_ret
            refine ⟨ret_int HR0.out.1.symm, ?_⟩
            rw [HR0.out.2, HKK.out]
            exact hM.drewN _
      · have hd : s.data.toList.drop (k + m) = [] := drop_all s _ (by omega)
        have HR0 := hid (HRES.out (by rw [hd, octN_nil]) (by rw [hd, octV_nil]))
        have heq : (((k + m : Nat) : Int) == (s.size : Int)) = true := by simpa using (show ((k + m : Nat) : Int) = s.size by omega)
        clear hd hq HRES
        generalize hkk : k + m = j at *
        have HKK := hid hkk
        clear hkk
        generalize octI m n = oi at *
        go_wp2
        go_quiet (fail)
        go_wp2
        go_ret
        refine ⟨ret_int HR0.out.1.symm, ?_⟩
        rw [HR0.out.2, HKK.out]
        exact hM.drewN _
    · obtain rfl : m = 3 := by omega
      have HR0 := hid (HRES.out rfl rfl)
      clear HRES
      generalize octI 3 n = oi at *
      go_wp2
      go_ret
      refine ⟨ret_int HR0.out.1.symm, ?_⟩
      rw [HR0.out.2]
      exact hM
end Go.Proofs.YtflcibmjblioaaaGreatDoor

/-
  The program's reader: what stands behind a backslash.
-/
namespace Go.Proofs.YtflcibmjblioaaaGreatDoor
open Go.RowKit
set_option maxRecDepth 100000

/-- The reader has come that far; below B all else is as it was. -/
structure MovB (B P : Nat) (w w' : World) (s : ByteArray) (k : Nat) : Prop where
  os : w'.os = w.os
  tape : w'.tape = w.tape
  output : w'.output = w.output
  size : w.heap.size ≤ w'.heap.size
  block : ∀ i, i < B → i ≠ P → w'.heap[i]? = w.heap[i]?
  at_ : RdAt w' P s k
theorem Moved.toB {B P : Nat} {w w' : World} {s : ByteArray} {k : Nat} (h : Moved P w w' s k) (hB : B ≤ w.heap.size) : MovB B P w w' s k :=
  ⟨h.keep.os, h.keep.tape, h.keep.output, h.keep.size, fun i hi hp => h.keep.block i (Nat.lt_of_lt_of_le hi hB) hp, h.at_⟩
theorem MovB.kept {B P : Nat} {a b c : World} {s : ByteArray} {k : Nat} (h : MovB B P a b s k) (g : Kept8 B b c) : MovB B P a c s k :=
  ⟨g.below.os.trans h.os, g.below.tape.trans h.tape, g.below.output.trans h.output, Nat.le_trans h.size g.size, fun i hi hp => (g.below.block i hi).trans (h.block i hi hp), g.at (by decide) h.at_⟩
theorem MovB.trans {B P : Nat} {a b c : World} {s : ByteArray} {k j : Nat} (h : MovB B P a b s k) (g : MovB B P b c s j) : MovB B P a c s j :=
  ⟨g.os.trans h.os, g.tape.trans h.tape, g.output.trans h.output, Nat.le_trans h.size g.size, fun i hi hp => (g.block i hi hp).trans (h.block i hi hp), g.at_⟩
theorem MovB.to {P : Nat} {a b : World} {s : ByteArray} {k : Nat} (h : MovB a.heap.size P a b s k) : Moved P a b s k :=
  ⟨⟨h.os, h.tape, h.output, h.size, h.block⟩, h.at_⟩
theorem Moved.toB' {P : Nat} {a b : World} {s : ByteArray} {k : Nat} (h : Moved P a b s k) : MovB a.heap.size P a b s k := h.toB (Nat.le_refl _)
theorem Own8.moved {w w' : World} {B P : Nat} {v : Value} {xs : List UInt8} {s : ByteArray} {k j : Nat} (h : Own8 w B v xs) (hR : RdAt w P s k) (hm : Moved P w w' s j) : Own8 w' B v xs := by
  refine World.ownsRow.kept h (row := some P) ⟨hm.keep.os, hm.keep.tape, hm.keep.output, hm.keep.size, fun i hi hp => hm.keep.block i hi (fun e => hp (by rw [e]))⟩ (.inr (fun e => ?_))
  obtain ⟨c, fz, hc⟩ := own8_kind h P e
  have h2 := (show w.heap[P]? = _ from hR).symm.trans hc
  cases h2
theorem octR_none {l : List UInt8} (h : octN 3 l = 0) : octR l = -1 := by unfold octR; rw [if_pos h]
theorem octR_some {l : List UInt8} (h : octN 3 l ≠ 0) : octR l = (octV 3 l 0 : Nat) := by unfold octR; rw [if_neg h]
theorem octV_lt : ∀ (m : Nat) (l : List UInt8) (n : Nat), octV m l n < (n + 1) * 8 ^ m
  | 0, _, n => by simp [octV]
  | m + 1, [], n => by
    have h1 : 1 ≤ 8 ^ (m + 1) := Nat.one_le_pow _ _ (by omega)
    have h2 : (n + 1) * 1 ≤ (n + 1) * 8 ^ (m + 1) := Nat.mul_le_mul_left _ h1
    show n < _
    omega
  | m + 1, c :: r, n => by
    unfold octV
    split
    · rename_i h
      have hc := (isOct_iff c).1 h
      have := octV_lt m r (8 * n + (c.toNat - 48))
      have h3 : (8 * n + (c.toNat - 48) + 1) * 8 ^ m ≤ (8 * (n + 1)) * 8 ^ m := Nat.mul_le_mul_right _ (by omega)
      have h4 : (n + 1) * 8 ^ (m + 1) = 8 * (n + 1) * 8 ^ m := by rw [Nat.pow_succ, Nat.mul_comm (8 ^ m) 8, ← Nat.mul_assoc, Nat.mul_comm (n + 1) 8]
      omega
    · have h1 : 1 ≤ 8 ^ (m + 1) := Nat.one_le_pow _ _ (by omega)
      have h2 : (n + 1) * 1 ≤ (n + 1) * 8 ^ (m + 1) := Nat.mul_le_mul_left _ h1
      omega
theorem yOctNone (P : Nat) (s : ByteArray) (k : Nat) (w : World) (hR : RdAt w P s k) (hk : k ≤ s.size) (hs : s.size ≤ 100000) (h : octN 3 (s.data.toList.drop k) = 0) :
    Calls Tryz.prog 182 #[.pointer (some ⟨P, 0, none⟩)] w fun e w' => e = .returned (.int .i64 (-1)) ∧ Moved P w w' s k := by
  have q := yOctal P s k w hR hk hs
  rw [octR_none h, h] at q; exact q
theorem yOctSome (P : Nat) (s : ByteArray) (k : Nat) (w : World) (hR : RdAt w P s k) (hk : k ≤ s.size) (hs : s.size ≤ 100000) (h : octN 3 (s.data.toList.drop k) ≠ 0) :
    Calls Tryz.prog 182 #[.pointer (some ⟨P, 0, none⟩)] w fun e w' => e = .returned (.int .i64 (octV 3 (s.data.toList.drop k) 0 : Nat)) ∧ Moved P w w' s (k + octN 3 (s.data.toList.drop k)) := by
  have q := yOctal P s k w hR hk hs
  rw [octR_some h] at q; exact q
theorem escL_cons (e : UInt8) (r : List UInt8) : escL (e :: r) = if isOct e then some ([UInt8.ofNat (octV 3 (e :: r) 0 % 256)], octN 3 (e :: r))
    else if e == 110 then some ([10], 1) else if e == 114 then some ([13], 1) else if e == 116 then some ([9], 1) else if e == 98 then some ([8], 1) else if e == 102 then some ([12], 1)
    else if e == 10 then some ([], 1) else if e == 13 then some ([], if r.head? = some 10 then 2 else 1) else some ([e], 1) := rfl
set_option maxHeartbeats 400000 in
theorem yEscEnd (P : Nat) (s : ByteArray) (sv : Value) (w : World) (hR : RdAt w P s s.size) (hs : s.size ≤ 100000) :
    Calls Tryz.prog 143 #[.pointer (some ⟨P, 0, none⟩), sv] w fun e w' => e = .returned (.tuple #[.slice none 0 0, .iface 50 (.int .i64 5)]) ∧ Moved P w w' s s.size := by
  have HO := hid (show octN 3 (s.data.toList.drop s.size) = 0 by rw [drop_all s _ (Nat.le_refl _), octN_nil])
  go_enter Tryz.func143, Tryz.ntmps143
  go_wp2_with (first
    | (go_at_call 182; refine (yOctNone P s s.size _ hR (Nat.le_refl _) hs HO.out).mono ?_; rintro e w1 ⟨rfl, hm⟩)
    | (go_at_call 142; refine (yTakeEnd P s _ hm.at_).mono ?_; rintro e w2 ⟨rfl, hm2⟩))
  go_ret2
  exact ⟨rfl, hm.trans hm2⟩
set_option maxHeartbeats 400000 in
theorem yEscOct (P : Nat) (s : ByteArray) (k B : Nat) (sv : Value) (xs : List UInt8) (w : World) (hR : RdAt w P s k) (hk : k < s.size) (hs : s.size ≤ 100000) (hown : Own8 w B sv xs) (hB : B ≤ w.heap.size) (hl : xs.length ≤ 100000000) (ho : isOct s[k] = true) :
    Calls Tryz.prog 143 #[.pointer (some ⟨P, 0, none⟩), sv] w fun e w' => ∃ v', e = .returned (.tuple #[v', .nilIface]) ∧ Own8 w' B v' (xs ++ [UInt8.ofNat (octV 3 (s.data.toList.drop k) 0 % 256)]) ∧ MovB B P w w' s (k + octN 3 (s.data.toList.drop k)) := by
  have HO := hid (show octN 3 (s.data.toList.drop k) ≠ 0 by rw [drop_at s k hk, octN_cons, if_pos ho]; omega)
  have hv : octV 3 (s.data.toList.drop k) 0 < (0 + 1) * 8 ^ 3 := octV_lt 3 _ 0
  have HC := hid (fun (w : World) (h : RdAt w P s k) => yOctSome P s k w h (by omega) hs HO.out)
  generalize octV 3 (s.data.toList.drop k) 0 = n at *
  generalize octN 3 (s.data.toList.drop k) = m at *
  obtain ⟨y, hy, hyy⟩ : ∃ y : UInt8, (y.toNat : Int) = (n : Int) % 256 ∧ UInt8.ofNat (n % 256) = y := ⟨_, by simp only [UInt8.toNat_ofNat']; omega, rfl⟩
  rw [hyy]
  clear hyy ho
  have hv' : (n : Int) < 512 := by omega
  go_enter Tryz.func143, Tryz.ntmps143
  go_wp2_with (first
    | (go_at_call 182; refine (HC.out _ hR).mono ?_; rintro e w1 ⟨rfl, hm⟩)
    | (at_builtin; refine wpApp8 rfl (.tmp 13) (.tmp 16) rfl B _ xs rfl (hown.moved hR hm) _ [y] 1 1 rfl rfl ?cc (by omega) (Nat.le_trans hB hm.keep.size) ?_))
  case cc => first | exact one8 hy | (unfold byteV; rw [hy])
  intro v2 w2 hown2 hk2
  go_wp2
  go_ret2
  exact ⟨_, rfl, hown2, (hm.toB hB).kept hk2⟩
set_option maxHeartbeats 400000 in
theorem yEscN (P : Nat) (s : ByteArray) (k B : Nat) (sv : Value) (xs : List UInt8) (w : World) (hR : RdAt w P s k) (hk : k < s.size) (hs : s.size ≤ 100000) (hown : Own8 w B sv xs) (hB : B ≤ w.heap.size) (hl : xs.length ≤ 100000000) (hc : s[k] = 110) :
    Calls Tryz.prog 143 #[.pointer (some ⟨P, 0, none⟩), sv] w fun e w' => ∃ v', e = .returned (.tuple #[v', .nilIface]) ∧ Own8 w' B v' (xs ++ [10]) ∧ MovB B P w w' s (k + 1) := by
  have HO := hid (show octN 3 (s.data.toList.drop k) = 0 by rw [drop_at s k hk, octN_cons, hc]; rfl)
  have q0 : (s[k].toNat : Int) = 110 := by rw [hc]; rfl
  clear hc
  go_enter Tryz.func143, Tryz.ntmps143
  go_wp2_with (first
    | (go_at_call 182; refine (yOctNone P s k _ hR (by omega) hs HO.out).mono ?_; rintro e w1 ⟨rfl, hm⟩)
    | (go_at_call 142; refine (yTake P s k _ hm.at_ hk hs).mono ?_; rintro e w2 ⟨rfl, hm2⟩)
    | (at_builtin; refine wpApp8 rfl (.tmp 52) (.tmp 54) rfl B _ xs rfl ((hown.moved hR hm).moved hm.at_ hm2) _ [10] 1 1 rfl rfl rfl (by omega) (Nat.le_trans (Nat.le_trans hB hm.keep.size) hm2.keep.size) ?_; intro v3 w3 hown3 hk3))
  go_ret2
  exact ⟨_, rfl, hown3, ((hm.trans hm2).toB hB).kept hk3⟩
set_option maxHeartbeats 400000 in
theorem yEscR (P : Nat) (s : ByteArray) (k B : Nat) (sv : Value) (xs : List UInt8) (w : World) (hR : RdAt w P s k) (hk : k < s.size) (hs : s.size ≤ 100000) (hown : Own8 w B sv xs) (hB : B ≤ w.heap.size) (hl : xs.length ≤ 100000000) (hc : s[k] = 114) :
    Calls Tryz.prog 143 #[.pointer (some ⟨P, 0, none⟩), sv] w fun e w' => ∃ v', e = .returned (.tuple #[v', .nilIface]) ∧ Own8 w' B v' (xs ++ [13]) ∧ MovB B P w w' s (k + 1) := by
  have HO := hid (show octN 3 (s.data.toList.drop k) = 0 by rw [drop_at s k hk, octN_cons, hc]; rfl)
  have q0 : (s[k].toNat : Int) = 114 := by rw [hc]; rfl
  clear hc
  go_enter Tryz.func143, Tryz.ntmps143
  go_wp2_with (first
    | (go_at_call 182; refine (yOctNone P s k _ hR (by omega) hs HO.out).mono ?_; rintro e w1 ⟨rfl, hm⟩)
    | (go_at_call 142; refine (yTake P s k _ hm.at_ hk hs).mono ?_; rintro e w2 ⟨rfl, hm2⟩)
    | (at_builtin; refine wpApp8 rfl (.tmp 52) (.tmp 54) rfl B _ xs rfl ((hown.moved hR hm).moved hm.at_ hm2) _ [13] 1 1 rfl rfl rfl (by omega) (Nat.le_trans (Nat.le_trans hB hm.keep.size) hm2.keep.size) ?_; intro v3 w3 hown3 hk3))
  go_ret2
  exact ⟨_, rfl, hown3, ((hm.trans hm2).toB hB).kept hk3⟩
set_option maxHeartbeats 400000 in
theorem yEscT (P : Nat) (s : ByteArray) (k B : Nat) (sv : Value) (xs : List UInt8) (w : World) (hR : RdAt w P s k) (hk : k < s.size) (hs : s.size ≤ 100000) (hown : Own8 w B sv xs) (hB : B ≤ w.heap.size) (hl : xs.length ≤ 100000000) (hc : s[k] = 116) :
    Calls Tryz.prog 143 #[.pointer (some ⟨P, 0, none⟩), sv] w fun e w' => ∃ v', e = .returned (.tuple #[v', .nilIface]) ∧ Own8 w' B v' (xs ++ [9]) ∧ MovB B P w w' s (k + 1) := by
  have HO := hid (show octN 3 (s.data.toList.drop k) = 0 by rw [drop_at s k hk, octN_cons, hc]; rfl)
  have q0 : (s[k].toNat : Int) = 116 := by rw [hc]; rfl
  clear hc
  go_enter Tryz.func143, Tryz.ntmps143
  go_wp2_with (first
    | (go_at_call 182; refine (yOctNone P s k _ hR (by omega) hs HO.out).mono ?_; rintro e w1 ⟨rfl, hm⟩)
    | (go_at_call 142; refine (yTake P s k _ hm.at_ hk hs).mono ?_; rintro e w2 ⟨rfl, hm2⟩)
    | (at_builtin; refine wpApp8 rfl (.tmp 52) (.tmp 54) rfl B _ xs rfl ((hown.moved hR hm).moved hm.at_ hm2) _ [9] 1 1 rfl rfl rfl (by omega) (Nat.le_trans (Nat.le_trans hB hm.keep.size) hm2.keep.size) ?_; intro v3 w3 hown3 hk3))
  go_ret2
  exact ⟨_, rfl, hown3, ((hm.trans hm2).toB hB).kept hk3⟩
set_option maxHeartbeats 400000 in
theorem yEscB (P : Nat) (s : ByteArray) (k B : Nat) (sv : Value) (xs : List UInt8) (w : World) (hR : RdAt w P s k) (hk : k < s.size) (hs : s.size ≤ 100000) (hown : Own8 w B sv xs) (hB : B ≤ w.heap.size) (hl : xs.length ≤ 100000000) (hc : s[k] = 98) :
    Calls Tryz.prog 143 #[.pointer (some ⟨P, 0, none⟩), sv] w fun e w' => ∃ v', e = .returned (.tuple #[v', .nilIface]) ∧ Own8 w' B v' (xs ++ [8]) ∧ MovB B P w w' s (k + 1) := by
  have HO := hid (show octN 3 (s.data.toList.drop k) = 0 by rw [drop_at s k hk, octN_cons, hc]; rfl)
  have q0 : (s[k].toNat : Int) = 98 := by rw [hc]; rfl
  clear hc
  go_enter Tryz.func143, Tryz.ntmps143
  go_wp2_with (first
    | (go_at_call 182; refine (yOctNone P s k _ hR (by omega) hs HO.out).mono ?_; rintro e w1 ⟨rfl, hm⟩)
    | (go_at_call 142; refine (yTake P s k _ hm.at_ hk hs).mono ?_; rintro e w2 ⟨rfl, hm2⟩)
    | (at_builtin; refine wpApp8 rfl (.tmp 52) (.tmp 54) rfl B _ xs rfl ((hown.moved hR hm).moved hm.at_ hm2) _ [8] 1 1 rfl rfl rfl (by omega) (Nat.le_trans (Nat.le_trans hB hm.keep.size) hm2.keep.size) ?_; intro v3 w3 hown3 hk3))
  go_ret2
  exact ⟨_, rfl, hown3, ((hm.trans hm2).toB hB).kept hk3⟩
set_option maxHeartbeats 400000 in
theorem yEscF (P : Nat) (s : ByteArray) (k B : Nat) (sv : Value) (xs : List UInt8) (w : World) (hR : RdAt w P s k) (hk : k < s.size) (hs : s.size ≤ 100000) (hown : Own8 w B sv xs) (hB : B ≤ w.heap.size) (hl : xs.length ≤ 100000000) (hc : s[k] = 102) :
    Calls Tryz.prog 143 #[.pointer (some ⟨P, 0, none⟩), sv] w fun e w' => ∃ v', e = .returned (.tuple #[v', .nilIface]) ∧ Own8 w' B v' (xs ++ [12]) ∧ MovB B P w w' s (k + 1) := by
  have HO := hid (show octN 3 (s.data.toList.drop k) = 0 by rw [drop_at s k hk, octN_cons, hc]; rfl)
  have q0 : (s[k].toNat : Int) = 102 := by rw [hc]; rfl
  clear hc
  go_enter Tryz.func143, Tryz.ntmps143
  go_wp2_with (first
    | (go_at_call 182; refine (yOctNone P s k _ hR (by omega) hs HO.out).mono ?_; rintro e w1 ⟨rfl, hm⟩)
    | (go_at_call 142; refine (yTake P s k _ hm.at_ hk hs).mono ?_; rintro e w2 ⟨rfl, hm2⟩)
    | (at_builtin; refine wpApp8 rfl (.tmp 52) (.tmp 54) rfl B _ xs rfl ((hown.moved hR hm).moved hm.at_ hm2) _ [12] 1 1 rfl rfl rfl (by omega) (Nat.le_trans (Nat.le_trans hB hm.keep.size) hm2.keep.size) ?_; intro v3 w3 hown3 hk3))
  go_ret2
  exact ⟨_, rfl, hown3, ((hm.trans hm2).toB hB).kept hk3⟩
end Go.Proofs.YtflcibmjblioaaaGreatDoor

/-
  The program's reader: what stands behind a backslash, all ways.
-/
namespace Go.Proofs.YtflcibmjblioaaaGreatDoor
open Go.RowKit
set_option maxRecDepth 100000

theorem MovB.set {B P : Nat} {a b : World} {s : ByteArray} {k : Nat} (h : MovB B P a b s k) {i : Int} {j : Nat} (e : i = j) : MovB B P a (b.setCell ⟨P, 1, none⟩ (.int .i64 i)) s j :=
  ⟨h.os, h.tape, h.output, by simpa [World.setCell] using h.size, fun q hq hp => (Below.heap_setCell _ _ _ _ hp).trans (h.block q hq hp), h.at_.set' e⟩
theorem Own8.set {w : World} {B P : Nat} {v : Value} {xs : List UInt8} {s : ByteArray} {k : Nat} (h : Own8 w B v xs) (hR : RdAt w P s k) (u : Value) : Own8 (w.setCell ⟨P, 1, none⟩ u) B v xs :=
  h.other (b := P) hR (by decide) 1 u
set_option maxHeartbeats 400000 in
theorem yEscLf (P : Nat) (s : ByteArray) (k B : Nat) (sv : Value) (xs : List UInt8) (w : World) (hR : RdAt w P s k) (hk : k < s.size) (hs : s.size ≤ 100000) (hown : Own8 w B sv xs) (hB : B ≤ w.heap.size) (hc : s[k] = 10) :
    Calls Tryz.prog 143 #[.pointer (some ⟨P, 0, none⟩), sv] w fun e w' => ∃ v', e = .returned (.tuple #[v', .nilIface]) ∧ Own8 w' B v' xs ∧ MovB B P w w' s (k + 1) := by
  have HO := hid (show octN 3 (s.data.toList.drop k) = 0 by rw [drop_at s k hk, octN_cons, hc]; rfl)
  have q0 : (s[k].toNat : Int) = 10 := by rw [hc]; rfl
  clear hc
  go_enter Tryz.func143, Tryz.ntmps143
  go_wp2_with (first
    | (go_at_call 182; refine (yOctNone P s k _ hR (by omega) hs HO.out).mono ?_; rintro e w1 ⟨rfl, hm⟩)
    | (go_at_call 142; refine (yTake P s k _ hm.at_ hk hs).mono ?_; rintro e w2 ⟨rfl, hm2⟩))
  go_ret2
  exact ⟨_, rfl, (hown.moved hR hm).moved hm.at_ hm2, (hm.trans hm2).toB hB⟩
theorem pre10 (l : List UInt8) : Lib.hasPrefix l [10] = decide (l.head? = some 10) := by
  cases l with
  | nil => rfl
  | cons c l =>
    unfold Lib.hasPrefix
    rw [Bool.eq_iff_iff]
    simp [List.isPrefixOf]
    exact ⟨fun h => h.symm, fun h => h.symm⟩
set_option maxHeartbeats 400000 in
theorem yEscCr (P : Nat) (s : ByteArray) (k B : Nat) (sv : Value) (xs : List UInt8) (w : World) (hR : RdAt w P s k) (hk : k < s.size) (hs : s.size ≤ 100000) (hown : Own8 w B sv xs) (hB : B ≤ w.heap.size) (hc : s[k] = 13) :
    Calls Tryz.prog 143 #[.pointer (some ⟨P, 0, none⟩), sv] w fun e w' => ∃ v', e = .returned (.tuple #[v', .nilIface]) ∧ Own8 w' B v' xs ∧ MovB B P w w' s (k + if (s.data.toList.drop (k + 1)).head? = some 10 then 2 else 1) := by
  have HO := hid (show octN 3 (s.data.toList.drop k) = 0 by rw [drop_at s k hk, octN_cons, hc]; rfl)
  have q0 : (s[k].toNat : Int) = 13 := by rw [hc]; rfl
  clear hc
  by_cases hh : (s.data.toList.drop (k + 1)).head? = some 10
  · rw [if_pos hh]
    have HA := hid (show Lib.hasPrefix (s.data.toList.drop (k + 1)) [10] = true by rw [pre10]; exact decide_eq_true hh)
    clear hh
    go_enter Tryz.func143, Tryz.ntmps143
    go_wp2_with (first
      | (go_at_call 182; refine (yOctNone P s k _ hR (by omega) hs HO.out).mono ?_; rintro e w1 ⟨rfl, hm⟩)
      | (go_at_call 142; refine (yTake P s k _ hm.at_ hk hs).mono ?_; rintro e w2 ⟨rfl, hm2⟩)
      | (go_at_call 88; refine (yAheadB P s _ (k + 1) true _ hm2.at_ (by omega) HA.out).mono ?_; rintro e w3 ⟨rfl, hm3⟩; have c1 := hm3.at_.c1; have f1 := At.free hm3.at_ 1))
    go_ret2
    exact ⟨_, rfl, (((hown.moved hR hm).moved hm.at_ hm2).moved hm2.at_ hm3).set hm3.at_ _, (((hm.trans hm2).trans hm3).toB hB).set (j := k + 2) (by omega)⟩
  · rw [if_neg hh]
    have HA := hid (show Lib.hasPrefix (s.data.toList.drop (k + 1)) [10] = false by rw [pre10]; exact decide_eq_false hh)
    clear hh
    go_enter Tryz.func143, Tryz.ntmps143
    go_wp2_with (first
      | (go_at_call 182; refine (yOctNone P s k _ hR (by omega) hs HO.out).mono ?_; rintro e w1 ⟨rfl, hm⟩)
      | (go_at_call 142; refine (yTake P s k _ hm.at_ hk hs).mono ?_; rintro e w2 ⟨rfl, hm2⟩)
      | (go_at_call 88; refine (yAheadB P s _ (k + 1) false _ hm2.at_ (by omega) HA.out).mono ?_; rintro e w3 ⟨rfl, hm3⟩))
    go_ret2
    exact ⟨_, rfl, ((hown.moved hR hm).moved hm.at_ hm2).moved hm2.at_ hm3, ((hm.trans hm2).trans hm3).toB hB⟩
theorem ne_u8 {c : UInt8} {k : Nat} (hk : k < 256) (h : ¬ c = k.toUInt8) : ((c.toNat : Int) == (k : Int)) = false := by
  rw [eq_u8 c k hk]; simpa using h
set_option maxHeartbeats 400000 in
theorem yEscElse (P : Nat) (s : ByteArray) (k B : Nat) (sv : Value) (xs : List UInt8) (w : World) (hR : RdAt w P s k) (hk : k < s.size) (hs : s.size ≤ 100000) (hown : Own8 w B sv xs) (hB : B ≤ w.heap.size) (hl : xs.length ≤ 100000000)
    (ho : ¬ isOct s[k] = true) (h1 : ¬ s[k] = 110) (h2 : ¬ s[k] = 114) (h3 : ¬ s[k] = 116) (h4 : ¬ s[k] = 98) (h5 : ¬ s[k] = 102) (h6 : ¬ s[k] = 10) (h7 : ¬ s[k] = 13) :
    Calls Tryz.prog 143 #[.pointer (some ⟨P, 0, none⟩), sv] w fun e w' => ∃ v', e = .returned (.tuple #[v', .nilIface]) ∧ Own8 w' B v' (xs ++ [s[k]]) ∧ MovB B P w w' s (k + 1) := by
  have HO := hid (show octN 3 (s.data.toList.drop k) = 0 by rw [drop_at s k hk, octN_cons, if_neg ho])
  have q1 : ((s[k].toNat : Int) == 110) = false := ne_u8 (k := 110) (by omega) h1
  have q2 : ((s[k].toNat : Int) == 114) = false := ne_u8 (k := 114) (by omega) h2
  have q3 : ((s[k].toNat : Int) == 116) = false := ne_u8 (k := 116) (by omega) h3
  have q4 : ((s[k].toNat : Int) == 98) = false := ne_u8 (k := 98) (by omega) h4
  have q5 : ((s[k].toNat : Int) == 102) = false := ne_u8 (k := 102) (by omega) h5
  have q6 : ((s[k].toNat : Int) == 10) = false := ne_u8 (k := 10) (by omega) h6
  have q7 : ((s[k].toNat : Int) == 13) = false := ne_u8 (k := 13) (by omega) h7
  clear ho h1 h2 h3 h4 h5 h6 h7
  go_enter Tryz.func143, Tryz.ntmps143
  go_wp2_with (first
    | (go_at_call 182; refine (yOctNone P s k _ hR (by omega) hs HO.out).mono ?_; rintro e w1 ⟨rfl, hm⟩)
    | (go_at_call 142; refine (yTake P s k _ hm.at_ hk hs).mono ?_; rintro e w2 ⟨rfl, hm2⟩)
    | (at_builtin; refine wpApp8 rfl (.tmp 52) (.tmp 54) rfl B _ xs rfl ((hown.moved hR hm).moved hm.at_ hm2) _ [s[k]] 1 1 rfl rfl rfl (by omega) (Nat.le_trans (Nat.le_trans hB hm.keep.size) hm2.keep.size) ?_; intro v3 w3 hown3 hk3))
  go_ret2
  exact ⟨_, rfl, hown3, ((hm.trans hm2).toB hB).kept hk3⟩
/-- What stands behind a backslash, all ways. -/
theorem yEscape (P : Nat) (s : ByteArray) (k B : Nat) (sv : Value) (xs x : List UInt8) (m : Nat) (w : World) (hR : RdAt w P s k) (hs : s.size ≤ 100000) (hown : Own8 w B sv xs) (hB : B ≤ w.heap.size) (hl : xs.length ≤ 100000000) (he : escL (s.data.toList.drop k) = some (x, m)) :
    Calls Tryz.prog 143 #[.pointer (some ⟨P, 0, none⟩), sv] w fun e w' => ∃ v', e = .returned (.tuple #[v', .nilIface]) ∧ Own8 w' B v' (xs ++ x) ∧ MovB B P w w' s (k + m) := by
  have hk : k < s.size := by
    by_cases h : k < s.size
    · exact h
    · rw [drop_all s k (by omega)] at he; cases he
  rw [drop_at s k hk, escL_cons] at he
  by_cases ho : isOct s[k] = true
  · rw [if_pos ho, ← drop_at s k hk] at he
    simp only [Option.some.injEq, Prod.mk.injEq] at he
    obtain ⟨rfl, rfl⟩ := he
    exact yEscOct P s k B sv xs w hR hk hs hown hB hl ho
  rw [if_neg ho] at he
  by_cases h110 : s[k] = 110
  · rw [if_pos (by simpa using h110)] at he
    simp only [Option.some.injEq, Prod.mk.injEq] at he
    obtain ⟨rfl, rfl⟩ := he
    exact yEscN P s k B sv xs w hR hk hs hown hB hl h110
  rw [if_neg (by simpa using h110)] at he
  by_cases h114 : s[k] = 114
  · rw [if_pos (by simpa using h114)] at he
    simp only [Option.some.injEq, Prod.mk.injEq] at he
    obtain ⟨rfl, rfl⟩ := he
    exact yEscR P s k B sv xs w hR hk hs hown hB hl h114
  rw [if_neg (by simpa using h114)] at he
  by_cases h116 : s[k] = 116
  · rw [if_pos (by simpa using h116)] at he
    simp only [Option.some.injEq, Prod.mk.injEq] at he
    obtain ⟨rfl, rfl⟩ := he
    exact yEscT P s k B sv xs w hR hk hs hown hB hl h116
  rw [if_neg (by simpa using h116)] at he
  by_cases h98 : s[k] = 98
  · rw [if_pos (by simpa using h98)] at he
    simp only [Option.some.injEq, Prod.mk.injEq] at he
    obtain ⟨rfl, rfl⟩ := he
    exact yEscB P s k B sv xs w hR hk hs hown hB hl h98
  rw [if_neg (by simpa using h98)] at he
  by_cases h102 : s[k] = 102
  · rw [if_pos (by simpa using h102)] at he
    simp only [Option.some.injEq, Prod.mk.injEq] at he
    obtain ⟨rfl, rfl⟩ := he
    exact yEscF P s k B sv xs w hR hk hs hown hB hl h102
  rw [if_neg (by simpa using h102)] at he
  by_cases h10 : s[k] = 10
  · rw [if_pos (by simpa using h10)] at he
    simp only [Option.some.injEq, Prod.mk.injEq] at he
    obtain ⟨rfl, rfl⟩ := he
    rw [List.append_nil]
    exact yEscLf P s k B sv xs w hR hk hs hown hB h10
  rw [if_neg (by simpa using h10)] at he
  by_cases h13 : s[k] = 13
  · rw [if_pos (by simpa using h13)] at he
    simp only [Option.some.injEq, Prod.mk.injEq] at he
    obtain ⟨rfl, rfl⟩ := he
    rw [List.append_nil]
    exact yEscCr P s k B sv xs w hR hk hs hown hB h13
  rw [if_neg (by simpa using h13)] at he
  simp only [Option.some.injEq, Prod.mk.injEq] at he
  obtain ⟨rfl, rfl⟩ := he
  exact yEscElse P s k B sv xs w hR hk hs hown hB hl ho h110 h114 h116 h98 h102 h10 h13
end Go.Proofs.YtflcibmjblioaaaGreatDoor
