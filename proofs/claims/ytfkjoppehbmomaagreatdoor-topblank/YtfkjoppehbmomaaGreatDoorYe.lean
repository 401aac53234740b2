/-
  Joined: Yc, Yd, Ye.
-/
import Derived.Test.YtfkjoppehbmomaaGreatDoorYb
import Derived.Test.YtfkjoppehbmomaaGreatDoorVa
import Derived.Test.YtfkjoppehbmomaaGreatDoorVd
import Derived.Deep.RegionLaw
import Derived.Deep.DrawnRows

/-
  The program's reader: names.
-/
namespace Go.Proofs.YtfkjoppehbmomaaGreatDoor
open Go.RowKit
set_option maxRecDepth 100000

theorem Moved.below {P : Nat} {a b c : World} {s : ByteArray} {k : Nat} (h : Moved P a b s k) (hP : P < a.heap.size) (g : Below a.heap.size b c) : Moved P a c s k :=
  ⟨⟨g.os.trans h.keep.os, g.tape.trans h.keep.tape, g.output.trans h.keep.output, Nat.le_trans h.keep.size g.size, fun i hi hp => (g.block i hi).trans (h.keep.block i hi hp)⟩, (g.block P hP).trans h.at_⟩
theorem ext_one (t : ByteArray) (c : UInt8) (r : List UInt8) (h : t.data.toList = c :: r) : (t.extract 1 t.size).data.toList = r := by
  rw [ext_tail, h]; rfl
theorem ext_three (t : ByteArray) (c x y : UInt8) (r : List UInt8) (h : t.data.toList = c :: x :: y :: r) : (t.extract 3 t.size).data.toList = r := by
  rw [ext_tail, h]; rfl
/-- What name() reads. -/
def nameR (W : List UInt8) : Option (List UInt8) := (nameL W).bind fun b => if nmOk ⟨b.toArray⟩ then some b else none
def nameOut : Option (List UInt8) → Value
  | none => .tuple #[.string ⟨#[]⟩, .iface 44 (.int .i64 4)]
  | some b => .tuple #[.string ⟨b.toArray⟩, .nilIface]
theorem nameR_none {W : List UInt8} (h : nameL W = none) : nameR W = none := by unfold nameR; rw [h]; rfl
theorem yPairSome (t : ByteArray) (c : UInt8) (w : World) (ht : t.size ≤ 100000) (h : pairL t.data.toList = some c) :
    Calls Tryz.prog 67 #[.string t] w fun e w' => e = .returned (.tuple #[.int .u8 (c.toNat : Int), .bool true]) ∧ w' = w := by
  have q := yPair t w ht; rw [h] at q; exact q
theorem yPairNone (t : ByteArray) (w : World) (ht : t.size ≤ 100000) (h : pairL t.data.toList = none) :
    Calls Tryz.prog 67 #[.string t] w fun e w' => e = .returned (.tuple #[.int .u8 0, .bool false]) ∧ w' = w := by
  have q := yPair t w ht; rw [h] at q; exact q
theorem map_pre (o : Option (List UInt8)) (pre : List UInt8) (c : UInt8) : (o.map (c :: ·)).map (pre ++ ·) = o.map ((pre ++ [c]) ++ ·) := by
  cases o <;> simp
set_option maxHeartbeats 2000000 in
theorem yName (P : Nat) (s : ByteArray) (k : Nat) (w : World) (hR : RdAt w P s k) (hk : k < s.size) (h47 : s[k] = 47) (hs : s.size ≤ 100000) :
    Calls Tryz.prog 35 #[.pointer (some ⟨P, 0, none⟩)] w fun e w' => e = .returned (nameOut (nameR (wordP s (k + 1)).data.toList)) ∧ Moved P w w' s (k + 1 + (wordP s (k + 1)).size) := by
  have hPl : P < w.heap.size := At.lt hR
  have HB := hid (show Lib.hasPrefix (s.data.toList.drop k) [47] = true by
    rw [List.drop_eq_getElem_cons (by simpa using hk)]
    show List.isPrefixOf [47] (s[k] :: _) = true
    rw [h47]; simp [List.isPrefixOf])
  have hz := wordP_size (s := s) (k := k + 1) (by omega)
  have HW := hid (fun (w : World) (h : RdAt w P s (k + 1)) => yWord P s (k + 1) w h (by omega) hs)
  generalize hWW : wordP s (k + 1) = ww at *
  clear hWW h47
  have hzz := hz.2
  clear hz
  go_enter Tryz.func35, Tryz.ntmps35
  go_wp2_with (first
    | (go_at_call 34; refine (yAheadB P s _ k true _ hR (by omega) HB.out).mono ?_; rintro e w1 ⟨rfl, hm⟩; have c1 := hm.at_.c1; have f1 := At.free hm.at_ 1)
    | (go_at_call 66; go_must (refine (HW.out _ (hm.set (j := k + 1) (by omega)).at_).mono ?_); rintro e w2 ⟨rfl, hm2⟩))
  have hm3 := (hm.set (i := (k : Int) + 1) (j := k + 1) (by omega)).trans hm2
  clear hm hm2 c1 f1 HW
  go_loopw [4, 5] (fun tv bv wr => ∃ (t : ByteArray) (pre : List UInt8), tv = .string t ∧ pre.length + t.size ≤ ww.size ∧ (nameL t.data.toList).map (pre ++ ·) = nameL ww.data.toList ∧ Own8 wr w.heap.size bv pre ∧ w.heap.size ≤ wr.heap.size ∧ Moved P w wr s (k + 1 + ww.size)) (fun tv _ _ => strLen tv)
  case atStart => exact ⟨ww, [], rfl, by simp, by simp, Own8.nil _ _, hm3.keep.size, hm3⟩
  case round =>
    clear hm3
    obtain ⟨t, pre, rfl, htl, hN, hown, hbs, hm⟩ := hrel
    have HN := hid hN
    clear hN
    by_cases h0 : 0 < t.size
    · have h0' : (0 : Int) < t.size := by omega
      obtain ⟨r, hr⟩ := cons_of h0
      have hc := t[0].toNat_lt
      by_cases h35 : t[0] = 35
      · have q35 : (t[0].toNat : Int) = 35 := by rw [h35]; rfl
        have HX := hid (ext_one t _ r hr)
        cases hp : pairL r with
        | none =>
          have HNO := hid (show nameL ww.data.toList = none by
            rw [← HN.out, hr, h35]
            match r, hp with
            | [], _ => rw [nameL_short1]; rfl
            | [x], _ => rw [nameL_short2]; rfl
            | x :: y :: r', hp =>
              rw [pairL_cons] at hp
              rw [nameL_pair]
              by_cases e : hexV x < 0 ∨ hexV y < 0
              · rw [if_pos e]; rfl
              · rw [if_neg e] at hp; cases hp)
          have HPN := hid (fun (w : World) => yPairNone (t.extract 1 t.size) w (by rw [ext_size _ _ _ (Nat.le_refl _)]; omega) (by rw [HX.out]; exact hp))
          clear hr h35 HX
          go_wp2_with (go_at_call 67; go_must (refine (HPN.out _).mono ?_); rintro e w1 ⟨rfl, rfl⟩)
          go_ret2
          refine ⟨?_, hm⟩
          rw [nameR_none HNO.out]; rfl
        | some c =>
          obtain ⟨x, y, r', rfl, hcc⟩ : ∃ x y r', r = x :: y :: r' ∧ ∀ o : Option (List UInt8), (nameL (35 :: x :: y :: r')).map (pre ++ ·) = (nameL r').map ((pre ++ [c]) ++ ·) := by
            match r, hp with
            | [], hp => cases hp
            | [x], hp => cases hp
            | x :: y :: r', hp =>
              refine ⟨x, y, r', rfl, fun _ => ?_⟩
              rw [pairL_cons] at hp
              rw [nameL_pair]
              by_cases e : hexV x < 0 ∨ hexV y < 0
              · rw [if_pos e] at hp; cases hp
              · rw [if_neg e] at hp ⊢
                cases hp
                exact map_pre _ _ _
          have HPS := hid (fun (w : World) => yPairSome (t.extract 1 t.size) c w (by rw [ext_size _ _ _ (Nat.le_refl _)]; omega) (by rw [HX.out]; exact hp))
          have HX3 := hid (ext_three t _ x y r' hr)
          have HZ3 := hid (ext_size t 3 t.size (Nat.le_refl _))
          have HNX := hid (show (nameL r').map ((pre ++ [c]) ++ ·) = nameL ww.data.toList by rw [← HN.out, hr, h35]; exact (hcc none).symm)
          have h3 : (3 : Int) ≤ t.size := by
            have : t.data.toList.length = r'.length + 3 := by rw [hr]; rfl
            rw [ba_len] at this; omega
          have hc2 := c.toNat_lt
          clear hr h35 HX hp hcc
          go_wp2_with (go_at_call 67; go_must (refine (HPS.out _).mono ?_); rintro e w1 ⟨rfl, rfl⟩)
          go_region_law ((refine stepApp8g (by rfl) (.tmp 39) (.tmp 41) (by rfl) w.heap.size _ pre (by rfl) (by exact hown.alloc _) w1.heap.size [c] 1 1 (by rfl) (0, 0) (by rfl) _ (by rfl) (by exact heap_alloc_new _ _) (by simp; omega) (by simp; omega) ?_; intro v2 w2 hown2 hk2))
          all_goals
            have hk3 := hk2.undrew.unalloc.kept hown hbs
            have hm2 := hm.below hPl hk3.below
            have hs2 := Nat.le_trans hbs hk3.size
            clear hown hk2 hm
            go_simp
            go_wp2
            go_roundw
            case rel =>
              refine ⟨_, pre ++ [c], rfl, ?_, ?_, hown2, hs2, hm2⟩
              · rw [HZ3.out, List.length_append]; simp; omega
              · rw [HX3.out]; exact HNX.out
            case measure => have := HZ3.out; simp only [strLen]; omega
      · have q35 : ((t[0].toNat : Int) == 35) = false := by rw [show (35 : Int) = ((35 : UInt8).toNat : Int) from rfl, beq_u8]; simpa using h35
        have HX1 := hid (ext_one t _ r hr)
        have HZ1 := hid (ext_size t 1 t.size (Nat.le_refl _))
        have HNX := hid (show (nameL r).map ((pre ++ [t[0]]) ++ ·) = nameL ww.data.toList by
          rw [← HN.out, hr, nameL_plain (by simpa using h35)]; exact (map_pre _ _ _).symm)
        have h1' : (1 : Int) ≤ t.size := by omega
        clear hr h35
        go_wp2_with fail
        go_region_law ((refine stepApp8g (by rfl) (.tmp 39) (.tmp 41) (by rfl) w.heap.size _ pre (by rfl) (by exact hown.alloc _) wr.heap.size [t[0]] 1 1 (by rfl) (0, 0) (by rfl) _ (by rfl) (by exact heap_alloc_new _ _) (by simp; omega) (by simp; omega) ?_; intro v2 w2 hown2 hk2))
        all_goals
          have hk3 := hk2.undrew.unalloc.kept hown hbs
          have hm2 := hm.below hPl hk3.below
          have hs2 := Nat.le_trans hbs hk3.size
          clear hown hk2 hm
          go_simp
          go_wp2
          go_roundw
          case rel =>
            refine ⟨_, pre ++ [t[0]], rfl, ?_, ?_, hown2, hs2, hm2⟩
            · rw [HZ1.out, List.length_append]; simp; omega
            · rw [HX1.out]; exact HNX.out
          case measure => have := HZ1.out; simp only [strLen]; omega
    · have hz : t.size = 0 := by omega
      have HF := hid (show nameL ww.data.toList = some pre by
        rw [← HN.out, ba_nil hz, nameL_nil]; simp)
      have hcv := own8_conv hown
      have HMay := hid (fun (w : World) => vNameMay ⟨pre.toArray⟩ w (by rw [show (⟨pre.toArray⟩ : ByteArray).size = pre.length by simp [ByteArray.size]]; unfold maxLen; omega))
      cases hok : nmOk ⟨pre.toArray⟩
      · have HR0 := hid (show nameR ww.data.toList = none by unfold nameR; rw [HF.out]; show (if nmOk ⟨pre.toArray⟩ = true then _ else _) = _; rw [hok]; rfl)
        rw [hok] at HMay
        go_wp2_with (go_at_call 68; refine (HMay.out _).mono ?_; rintro e w1 ⟨rfl, rfl⟩)
        go_ret2
        exact ⟨by rw [HR0.out]; rfl, hm⟩
      · have HR0 := hid (show nameR ww.data.toList = some pre by unfold nameR; rw [HF.out]; show (if nmOk ⟨pre.toArray⟩ = true then _ else _) = _; rw [hok]; rfl)
        rw [hok] at HMay
        go_wp2_with (go_at_call 68; refine (HMay.out _).mono ?_; rintro e w1 ⟨rfl, rfl⟩)
        go_ret2
        exact ⟨by rw [HR0.out]; rfl, hm⟩
end Go.Proofs.YtfkjoppehbmomaaGreatDoor

/-
  The program's reader: digits to the base 8, and what stands behind a backslash.
-/
namespace Go.Proofs.YtfkjoppehbmomaaGreatDoor
open Go.RowKit
set_option maxRecDepth 100000

theorem drop_at (s : ByteArray) (p : Nat) (h : p < s.size) : s.data.toList.drop p = s[p] :: s.data.toList.drop (p + 1) := by
  rw [List.drop_eq_getElem_cons (by simpa using h)]; rfl
theorem octN_cons (m : Nat) (c : UInt8) (r : List UInt8) : octN (m + 1) (c :: r) = if isOct c then octN m r + 1 else 0 := rfl
theorem octV_cons (m : Nat) (c : UInt8) (r : List UInt8) (n : Nat) : octV (m + 1) (c :: r) n = if isOct c then octV m r (8 * n + (c.toNat - 48)) else n := rfl
theorem octN_nil (m : Nat) : octN m [] = 0 := by cases m <;> rfl
theorem octV_nil (m n : Nat) : octV m [] n = n := by cases m <;> rfl
theorem isOct_iff (c : UInt8) : isOct c = true ↔ 48 ≤ c.toNat ∧ c.toNat ≤ 55 := by unfold isOct; simp
/-- The number of up to three digits to the base 8; below 0: there is none. -/
def octR (l : List UInt8) : Int := if octN 3 l = 0 then -1 else (octV 3 l 0 : Nat)
def octI (m n : Nat) : Int := if m = 0 then -1 else (n : Int)
set_option maxHeartbeats 2000000 in
theorem yOctal (P : Nat) (s : ByteArray) (k : Nat) (w : World) (hR : RdAt w P s k) (hk : k ≤ s.size) (hs : s.size ≤ 100000) :
    Calls Tryz.prog 95 #[.pointer (some ⟨P, 0, none⟩)] w fun e w' => e = .returned (.int .i64 (octR (s.data.toList.drop k))) ∧ Moved P w w' s (k + octN 3 (s.data.toList.drop k)) := by
  go_enter Tryz.func95, Tryz.ntmps95
  go_wp2
  go_loopw [3, 4] (fun nv iv wr => ∃ m n : Nat, iv = .int .i64 m ∧ nv = .int .i64 (octI m n) ∧ m ≤ 3 ∧ n < 512 ∧ (m = 0 → n = 0) ∧ (m ≤ 1 → n < 8) ∧ (m ≤ 2 → n < 64) ∧ k + m ≤ s.size ∧ octN 3 (s.data.toList.drop k) = m + octN (3 - m) (s.data.toList.drop (k + m)) ∧ octV 3 (s.data.toList.drop k) 0 = octV (3 - m) (s.data.toList.drop (k + m)) n ∧ Moved P w wr s (k + m)) (fun _ iv _ => 3 - (intOf iv).toNat)
  case atStart => exact ⟨0, 0, rfl, rfl, by omega, by omega, fun _ => rfl, by omega, by omega, by omega, by simp, by simp, Moved.refl hR⟩
  case round =>
    obtain ⟨m, n, rfl, rfl, hm3, hn, hn0, hn8, hn64, hkm, hN, hV, hM⟩ := hrel
    have HN := hid hN
    have HV := hid hV
    clear hN hV
    have c0 := hM.at_.c0
    have c1 := hM.at_.c1
    have f1 := At.free hM.at_ 1
    have HRES := hid (fun (h : octN (3 - m) (s.data.toList.drop (k + m)) = 0) (h2 : octV (3 - m) (s.data.toList.drop (k + m)) n = n) => show octR (s.data.toList.drop k) = octI m n ∧ octN 3 (s.data.toList.drop k) = m by
      have e1 := HN.out
      rw [h] at e1
      have e2 := HV.out
      rw [h2] at e2
      unfold octR octI
      rw [e1, e2]
      exact ⟨rfl, rfl⟩)
    by_cases hlt : (m : Int) < 3
    · obtain ⟨q, hq⟩ : ∃ q, 3 - m = q + 1 := ⟨2 - m, by omega⟩
      by_cases hin : k + m < s.size
      · have hd := drop_at s (k + m) hin
        have hne : (((k + m : Nat) : Int) == (s.size : Int)) = false := by simpa using (show ¬ ((k + m : Nat) : Int) = s.size by omega)
        have hin' : ((k + m : Nat) : Int) < s.size := by omega
        have hin0 : (0 : Int) ≤ ((k + m : Nat) : Int) := by omega
        have hc := s[k + m].toNat_lt
        by_cases hoct : isOct s[k + m] = true
        · obtain ⟨lo, hi⟩ := (isOct_iff _).1 hoct
          have HN2 := hid (show octN 3 (s.data.toList.drop k) = m + 1 + octN (3 - (m + 1)) (s.data.toList.drop (k + (m + 1))) by
            have e := HN.out
            rw [hq, hd, octN_cons, if_pos hoct] at e
            rw [e, show 3 - (m + 1) = q by omega, show k + (m + 1) = k + m + 1 by omega]; omega)
          have HV2 := hid (show octV 3 (s.data.toList.drop k) 0 = octV (3 - (m + 1)) (s.data.toList.drop (k + (m + 1))) (8 * n + (s[k + m].toNat - 48)) by
            have e := HV.out
            rw [hq, hd, octV_cons, if_pos hoct] at e
            rw [e, show 3 - (m + 1) = q by omega, show k + (m + 1) = k + m + 1 by omega])
          clear hd hq hoct HRES
          generalize hkk : k + m = j at *
          have HKK := hid hkk
          clear hkk
          have hd1 : decide ((s[j].toNat : Int) < 48) = false := by simpa using (show (48 : Int) ≤ s[j].toNat by omega)
          have hd2 : decide ((55 : Int) < (s[j].toNat : Int)) = false := by simpa using (show (s[j].toNat : Int) ≤ 55 by omega)
          have hmx : max (octI m n) 0 = (n : Int) := by
            unfold octI
            by_cases e : m = 0
            · rw [if_pos e, hn0 e]; rfl
            · rw [if_neg e]; omega
          generalize octI m n = oi at *
          go_wp2
          go_quiet (fail)
          go_wp2
          go_quiet (fail)
          go_wp2
          go_roundw
          case rel =>
            refine ⟨m + 1, 8 * n + (s[j].toNat - 48), by go_num, ?_, by omega, ?_, by omega, by omega, by omega, by have := HKK.out; omega, HN2.out, HV2.out, ?_⟩
            · unfold octI; rw [if_neg (by omega)]; exact congrArg (Value.int .i64) (by omega)
            · omega
            · have hk2 : k + (m + 1) = j + 1 := by have := HKK.out; omega
              rw [hk2]
              exact (hM.drewN _).set (by omega)
          case measure => simp [intOf]; omega
        · have HR0 := hid (HRES.out (by rw [hq, hd, octN_cons, if_neg hoct]) (by rw [hq, hd, octV_cons, if_neg hoct]))
          have hbd : ¬ (48 ≤ s[k + m].toNat ∧ s[k + m].toNat ≤ 55) := fun h => hoct ((isOct_iff _).2 h)
          clear hd hq hoct HRES
          generalize hkk : k + m = j at *
          have HKK := hid hkk
          clear hkk
          generalize octI m n = oi at *
          by_cases hlo : (s[j].toNat : Int) < 48
          · have hd1 : decide ((s[j].toNat : Int) < 48) = true := by simpa using hlo
            go_wp2
            go_quiet (fail)
            go_wp2
            go_ret
            refine ⟨ret_int HR0.out.1.symm, ?_⟩
            rw [HR0.out.2, HKK.out]
            exact hM.drewN _
          · have hd1 : decide ((s[j].toNat : Int) < 48) = false := by simpa using hlo
            have hd2 : decide ((55 : Int) < (s[j].toNat : Int)) = true := by simpa using (show (55 : Int) < s[j].toNat by omega)
            go_wp2
            go_quiet (fail)
            go_wp2
            go_ret
            refine ⟨ret_int HR0.out.1.symm, ?_⟩
            rw [HR0.out.2, HKK.out]
            exact hM.drewN _
      · have hd : s.data.toList.drop (k + m) = [] := drop_all s _ (by omega)
        have HR0 := hid (HRES.out (by rw [hd, octN_nil]) (by rw [hd, octV_nil]))
        have heq : (((k + m : Nat) : Int) == (s.size : Int)) = true := by simpa using (show ((k + m : Nat) : Int) = s.size by omega)
        clear hd hq HRES
        generalize hkk : k + m = j at *
        have HKK := hid hkk
        clear hkk
        generalize octI m n = oi at *
        go_wp2
        go_quiet (fail)
        go_wp2
        go_ret
        refine ⟨ret_int HR0.out.1.symm, ?_⟩
        rw [HR0.out.2, HKK.out]
        exact hM.drewN _
    · obtain rfl : m = 3 := by omega
      have HR0 := hid (HRES.out rfl rfl)
      clear HRES
      generalize octI 3 n = oi at *
      go_wp2
      go_ret
      refine ⟨ret_int HR0.out.1.symm, ?_⟩
      rw [HR0.out.2]
      exact hM
end Go.Proofs.YtfkjoppehbmomaaGreatDoor

/-
  The program's reader: what stands behind a backslash.
-/
namespace Go.Proofs.YtfkjoppehbmomaaGreatDoor
open Go.RowKit
set_option maxRecDepth 100000

/-- The reader has come that far; below B all else is as it was. -/
structure MovB (B P : Nat) (w w' : World) (s : ByteArray) (k : Nat) : Prop where
  os : w'.os = w.os
  tape : w'.tape = w.tape
  output : w'.output = w.output
  size : w.heap.size ≤ w'.heap.size
  block : ∀ i, i < B → i ≠ P → w'.heap[i]? = w.heap[i]?
  at_ : RdAt w' P s k
theorem Moved.toB {B P : Nat} {w w' : World} {s : ByteArray} {k : Nat} (h : Moved P w w' s k) (hB : B ≤ w.heap.size) : MovB B P w w' s k :=
  ⟨h.keep.os, h.keep.tape, h.keep.output, h.keep.size, fun i hi hp => h.keep.block i (Nat.lt_of_lt_of_le hi hB) hp, h.at_⟩
theorem MovB.kept {B P : Nat} {a b c : World} {s : ByteArray} {k : Nat} (h : MovB B P a b s k) (g : Kept8 B b c) : MovB B P a c s k :=
  ⟨g.below.os.trans h.os, g.below.tape.trans h.tape, g.below.output.trans h.output, Nat.le_trans h.size g.size, fun i hi hp => (g.below.block i hi).trans (h.block i hi hp), g.at (by decide) h.at_⟩
theorem MovB.trans {B P : Nat} {a b c : World} {s : ByteArray} {k j : Nat} (h : MovB B P a b s k) (g : MovB B P b c s j) : MovB B P a c s j :=
  ⟨g.os.trans h.os, g.tape.trans h.tape, g.output.trans h.output, Nat.le_trans h.size g.size, fun i hi hp => (g.block i hi hp).trans (h.block i hi hp), g.at_⟩
theorem MovB.to {P : Nat} {a b : World} {s : ByteArray} {k : Nat} (h : MovB a.heap.size P a b s k) : Moved P a b s k :=
  ⟨⟨h.os, h.tape, h.output, h.size, h.block⟩, h.at_⟩
theorem Moved.toB' {P : Nat} {a b : World} {s : ByteArray} {k : Nat} (h : Moved P a b s k) : MovB a.heap.size P a b s k := h.toB (Nat.le_refl _)
theorem Own8.moved {w w' : World} {B P : Nat} {v : Value} {xs : List UInt8} {s : ByteArray} {k j : Nat} (h : Own8 w B v xs) (hR : RdAt w P s k) (hm : Moved P w w' s j) : Own8 w' B v xs := by
  refine World.ownsRow.kept h (row := some P) ⟨hm.keep.os, hm.keep.tape, hm.keep.output, hm.keep.size, fun i hi hp => hm.keep.block i hi (fun e => hp (by rw [e]))⟩ (.inr (fun e => ?_))
  obtain ⟨c, fz, hc⟩ := own8_kind h P e
  have h2 := (show w.heap[P]? = _ from hR).symm.trans hc
  cases h2
theorem octR_none {l : List UInt8} (h : octN 3 l = 0) : octR l = -1 := by unfold octR; rw [if_pos h]
theorem octR_some {l : List UInt8} (h : octN 3 l ≠ 0) : octR l = (octV 3 l 0 : Nat) := by unfold octR; rw [if_neg h]
theorem octV_lt : ∀ (m : Nat) (l : List UInt8) (n : Nat), octV m l n < (n + 1) * 8 ^ m
  | 0, _, n => by simp [octV]
  | m + 1, [], n => by
    have h1 : 1 ≤ 8 ^ (m + 1) := Nat.one_le_pow _ _ (by omega)
    have h2 : (n + 1) * 1 ≤ (n + 1) * 8 ^ (m + 1) := Nat.mul_le_mul_left _ h1
    show n < _
    omega
  | m + 1, c :: r, n => by
    unfold octV
    split
    · rename_i h
      have hc := (isOct_iff c).1 h
      have := octV_lt m r (8 * n + (c.toNat - 48))
      have h3 : (8 * n + (c.toNat - 48) + 1) * 8 ^ m ≤ (8 * (n + 1)) * 8 ^ m := Nat.mul_le_mul_right _ (by omega)
      have h4 : (n + 1) * 8 ^ (m + 1) = 8 * (n + 1) * 8 ^ m := by rw [Nat.pow_succ, Nat.mul_comm (8 ^ m) 8, ← Nat.mul_assoc, Nat.mul_comm (n + 1) 8]
      omega
    · have h1 : 1 ≤ 8 ^ (m + 1) := Nat.one_le_pow _ _ (by omega)
      have h2 : (n + 1) * 1 ≤ (n + 1) * 8 ^ (m + 1) := Nat.mul_le_mul_left _ h1
      omega
theorem yOctNone (P : Nat) (s : ByteArray) (k : Nat) (w : World) (hR : RdAt w P s k) (hk : k ≤ s.size) (hs : s.size ≤ 100000) (h : octN 3 (s.data.toList.drop k) = 0) :
    Calls Tryz.prog 95 #[.pointer (some ⟨P, 0, none⟩)] w fun e w' => e = .returned (.int .i64 (-1)) ∧ Moved P w w' s k := by
  have q := yOctal P s k w hR hk hs
  rw [octR_none h, h] at q; exact q
theorem yOctSome (P : Nat) (s : ByteArray) (k : Nat) (w : World) (hR : RdAt w P s k) (hk : k ≤ s.size) (hs : s.size ≤ 100000) (h : octN 3 (s.data.toList.drop k) ≠ 0) :
    Calls Tryz.prog 95 #[.pointer (some ⟨P, 0, none⟩)] w fun e w' => e = .returned (.int .i64 (octV 3 (s.data.toList.drop k) 0 : Nat)) ∧ Moved P w w' s (k + octN 3 (s.data.toList.drop k)) := by
  have q := yOctal P s k w hR hk hs
  rw [octR_some h] at q; exact q
theorem escL_cons (e : UInt8) (r : List UInt8) : escL (e :: r) = if isOct e then some ([UInt8.ofNat (octV 3 (e :: r) 0 % 256)], octN 3 (e :: r))
    else if e == 110 then some ([10], 1) else if e == 114 then some ([13], 1) else if e == 116 then some ([9], 1) else if e == 98 then some ([8], 1) else if e == 102 then some ([12], 1)
    else if e == 10 then some ([], 1) else if e == 13 then some ([], if r.head? = some 10 then 2 else 1) else some ([e], 1) := rfl
set_option maxHeartbeats 400000 in
theorem yEscEnd (P : Nat) (s : ByteArray) (sv : Value) (w : World) (hR : RdAt w P s s.size) (hs : s.size ≤ 100000) :
    Calls Tryz.prog 70 #[.pointer (some ⟨P, 0, none⟩), sv] w fun e w' => e = .returned (.tuple #[.slice none 0 0, .iface 44 (.int .i64 5)]) ∧ Moved P w w' s s.size := by
  have HO := hid (show octN 3 (s.data.toList.drop s.size) = 0 by rw [drop_all s _ (Nat.le_refl _), octN_nil])
  go_enter Tryz.func70, Tryz.ntmps70
  go_wp2_with (first
    | (go_at_call 95; refine (yOctNone P s s.size _ hR (Nat.le_refl _) hs HO.out).mono ?_; rintro e w1 ⟨rfl, hm⟩)
    | (go_at_call 69; refine (yTakeEnd P s _ hm.at_).mono ?_; rintro e w2 ⟨rfl, hm2⟩))
  go_ret2
  exact ⟨rfl, hm.trans hm2⟩
set_option maxHeartbeats 400000 in
theorem yEscOct (P : Nat) (s : ByteArray) (k B : Nat) (sv : Value) (xs : List UInt8) (w : World) (hR : RdAt w P s k) (hk : k < s.size) (hs : s.size ≤ 100000) (hown : Own8 w B sv xs) (hB : B ≤ w.heap.size) (hl : xs.length ≤ 100000000) (ho : isOct s[k] = true) :
    Calls Tryz.prog 70 #[.pointer (some ⟨P, 0, none⟩), sv] w fun e w' => ∃ v', e = .returned (.tuple #[v', .nilIface]) ∧ Own8 w' B v' (xs ++ [UInt8.ofNat (octV 3 (s.data.toList.drop k) 0 % 256)]) ∧ MovB B P w w' s (k + octN 3 (s.data.toList.drop k)) := by
  have HO := hid (show octN 3 (s.data.toList.drop k) ≠ 0 by rw [drop_at s k hk, octN_cons, if_pos ho]; omega)
  have hv : octV 3 (s.data.toList.drop k) 0 < (0 + 1) * 8 ^ 3 := octV_lt 3 _ 0
  have HC := hid (fun (w : World) (h : RdAt w P s k) => yOctSome P s k w h (by omega) hs HO.out)
  generalize octV 3 (s.data.toList.drop k) 0 = n at *
  generalize octN 3 (s.data.toList.drop k) = m at *
  obtain ⟨y, hy, hyy⟩ : ∃ y : UInt8, (y.toNat : Int) = (n : Int) % 256 ∧ UInt8.ofNat (n % 256) = y := ⟨_, by simp only [UInt8.toNat_ofNat']; omega, rfl⟩
  rw [hyy]
  clear hyy ho
  have hv' : (n : Int) < 512 := by omega
  go_enter Tryz.func70, Tryz.ntmps70
  go_wp2_with (first
    | (go_at_call 95; refine (HC.out _ hR).mono ?_; rintro e w1 ⟨rfl, hm⟩)
    | (at_builtin; refine wpApp8 rfl (.tmp 13) (.tmp 16) rfl B _ xs rfl (hown.moved hR hm) _ [y] 1 1 rfl rfl ?cc (by omega) (Nat.le_trans hB hm.keep.size) ?_))
  case cc => first | exact one8 hy | (unfold byteV; rw [hy])
  intro v2 w2 hown2 hk2
  go_wp2
  go_ret2
  exact ⟨_, rfl, hown2, (hm.toB hB).kept hk2⟩
set_option maxHeartbeats 400000 in
theorem yEscN (P : Nat) (s : ByteArray) (k B : Nat) (sv : Value) (xs : List UInt8) (w : World) (hR : RdAt w P s k) (hk : k < s.size) (hs : s.size ≤ 100000) (hown : Own8 w B sv xs) (hB : B ≤ w.heap.size) (hl : xs.length ≤ 100000000) (hc : s[k] = 110) :
    Calls Tryz.prog 70 #[.pointer (some ⟨P, 0, none⟩), sv] w fun e w' => ∃ v', e = .returned (.tuple #[v', .nilIface]) ∧ Own8 w' B v' (xs ++ [10]) ∧ MovB B P w w' s (k + 1) := by
  have HO := hid (show octN 3 (s.data.toList.drop k) = 0 by rw [drop_at s k hk, octN_cons, hc]; rfl)
  have q0 : (s[k].toNat : Int) = 110 := by rw [hc]; rfl
  clear hc
  go_enter Tryz.func70, Tryz.ntmps70
  go_wp2_with (first
    | (go_at_call 95; refine (yOctNone P s k _ hR (by omega) hs HO.out).mono ?_; rintro e w1 ⟨rfl, hm⟩)
    | (go_at_call 69; refine (yTake P s k _ hm.at_ hk hs).mono ?_; rintro e w2 ⟨rfl, hm2⟩)
    | (at_builtin; refine wpApp8 rfl (.tmp 52) (.tmp 54) rfl B _ xs rfl ((hown.moved hR hm).moved hm.at_ hm2) _ [10] 1 1 rfl rfl rfl (by omega) (Nat.le_trans (Nat.le_trans hB hm.keep.size) hm2.keep.size) ?_; intro v3 w3 hown3 hk3))
  go_ret2
  exact ⟨_, rfl, hown3, ((hm.trans hm2).toB hB).kept hk3⟩
set_option maxHeartbeats 400000 in
theorem yEscR (P : Nat) (s : ByteArray) (k B : Nat) (sv : Value) (xs : List UInt8) (w : World) (hR : RdAt w P s k) (hk : k < s.size) (hs : s.size ≤ 100000) (hown : Own8 w B sv xs) (hB : B ≤ w.heap.size) (hl : xs.length ≤ 100000000) (hc : s[k] = 114) :
    Calls Tryz.prog 70 #[.pointer (some ⟨P, 0, none⟩), sv] w fun e w' => ∃ v', e = .returned (.tuple #[v', .nilIface]) ∧ Own8 w' B v' (xs ++ [13]) ∧ MovB B P w w' s (k + 1) := by
  have HO := hid (show octN 3 (s.data.toList.drop k) = 0 by rw [drop_at s k hk, octN_cons, hc]; rfl)
  have q0 : (s[k].toNat : Int) = 114 := by rw [hc]; rfl
  clear hc
  go_enter Tryz.func70, Tryz.ntmps70
  go_wp2_with (first
    | (go_at_call 95; refine (yOctNone P s k _ hR (by omega) hs HO.out).mono ?_; rintro e w1 ⟨rfl, hm⟩)
    | (go_at_call 69; refine (yTake P s k _ hm.at_ hk hs).mono ?_; rintro e w2 ⟨rfl, hm2⟩)
    | (at_builtin; refine wpApp8 rfl (.tmp 52) (.tmp 54) rfl B _ xs rfl ((hown.moved hR hm).moved hm.at_ hm2) _ [13] 1 1 rfl rfl rfl (by omega) (Nat.le_trans (Nat.le_trans hB hm.keep.size) hm2.keep.size) ?_; intro v3 w3 hown3 hk3))
  go_ret2
  exact ⟨_, rfl, hown3, ((hm.trans hm2).toB hB).kept hk3⟩
set_option maxHeartbeats 400000 in
theorem yEscT (P : Nat) (s : ByteArray) (k B : Nat) (sv : Value) (xs : List UInt8) (w : World) (hR : RdAt w P s k) (hk : k < s.size) (hs : s.size ≤ 100000) (hown : Own8 w B sv xs) (hB : B ≤ w.heap.size) (hl : xs.length ≤ 100000000) (hc : s[k] = 116) :
    Calls Tryz.prog 70 #[.pointer (some ⟨P, 0, none⟩), sv] w fun e w' => ∃ v', e = .returned (.tuple #[v', .nilIface]) ∧ Own8 w' B v' (xs ++ [9]) ∧ MovB B P w w' s (k + 1) := by
  have HO := hid (show octN 3 (s.data.toList.drop k) = 0 by rw [drop_at s k hk, octN_cons, hc]; rfl)
  have q0 : (s[k].toNat : Int) = 116 := by rw [hc]; rfl
  clear hc
  go_enter Tryz.func70, Tryz.ntmps70
  go_wp2_with (first
    | (go_at_call 95; refine (yOctNone P s k _ hR (by omega) hs HO.out).mono ?_; rintro e w1 ⟨rfl, hm⟩)
    | (go_at_call 69; refine (yTake P s k _ hm.at_ hk hs).mono ?_; rintro e w2 ⟨rfl, hm2⟩)
    | (at_builtin; refine wpApp8 rfl (.tmp 52) (.tmp 54) rfl B _ xs rfl ((hown.moved hR hm).moved hm.at_ hm2) _ [9] 1 1 rfl rfl rfl (by omega) (Nat.le_trans (Nat.le_trans hB hm.keep.size) hm2.keep.size) ?_; intro v3 w3 hown3 hk3))
  go_ret2
  exact ⟨_, rfl, hown3, ((hm.trans hm2).toB hB).kept hk3⟩
set_option maxHeartbeats 400000 in
theorem yEscB (P : Nat) (s : ByteArray) (k B : Nat) (sv : Value) (xs : List UInt8) (w : World) (hR : RdAt w P s k) (hk : k < s.size) (hs : s.size ≤ 100000) (hown : Own8 w B sv xs) (hB : B ≤ w.heap.size) (hl : xs.length ≤ 100000000) (hc : s[k] = 98) :
    Calls Tryz.prog 70 #[.pointer (some ⟨P, 0, none⟩), sv] w fun e w' => ∃ v', e = .returned (.tuple #[v', .nilIface]) ∧ Own8 w' B v' (xs ++ [8]) ∧ MovB B P w w' s (k + 1) := by
  have HO := hid (show octN 3 (s.data.toList.drop k) = 0 by rw [drop_at s k hk, octN_cons, hc]; rfl)
  have q0 : (s[k].toNat : Int) = 98 := by rw [hc]; rfl
  clear hc
  go_enter Tryz.func70, Tryz.ntmps70
  go_wp2_with (first
    | (go_at_call 95; refine (yOctNone P s k _ hR (by omega) hs HO.out).mono ?_; rintro e w1 ⟨rfl, hm⟩)
    | (go_at_call 69; refine (yTake P s k _ hm.at_ hk hs).mono ?_; rintro e w2 ⟨rfl, hm2⟩)
    | (at_builtin; refine wpApp8 rfl (.tmp 52) (.tmp 54) rfl B _ xs rfl ((hown.moved hR hm).moved hm.at_ hm2) _ [8] 1 1 rfl rfl rfl (by omega) (Nat.le_trans (Nat.le_trans hB hm.keep.size) hm2.keep.size) ?_; intro v3 w3 hown3 hk3))
  go_ret2
  exact ⟨_, rfl, hown3, ((hm.trans hm2).toB hB).kept hk3⟩
set_option maxHeartbeats 400000 in
theorem yEscF (P : Nat) (s : ByteArray) (k B : Nat) (sv : Value) (xs : List UInt8) (w : World) (hR : RdAt w P s k) (hk : k < s.size) (hs : s.size ≤ 100000) (hown : Own8 w B sv xs) (hB : B ≤ w.heap.size) (hl : xs.length ≤ 100000000) (hc : s[k] = 102) :
    Calls Tryz.prog 70 #[.pointer (some ⟨P, 0, none⟩), sv] w fun e w' => ∃ v', e = .returned (.tuple #[v', .nilIface]) ∧ Own8 w' B v' (xs ++ [12]) ∧ MovB B P w w' s (k + 1) := by
  have HO := hid (show octN 3 (s.data.toList.drop k) = 0 by rw [drop_at s k hk, octN_cons, hc]; rfl)
  have q0 : (s[k].toNat : Int) = 102 := by rw [hc]; rfl
  clear hc
  go_enter Tryz.func70, Tryz.ntmps70
  go_wp2_with (first
    | (go_at_call 95; refine (yOctNone P s k _ hR (by omega) hs HO.out).mono ?_; rintro e w1 ⟨rfl, hm⟩)
    | (go_at_call 69; refine (yTake P s k _ hm.at_ hk hs).mono ?_; rintro e w2 ⟨rfl, hm2⟩)
    | (at_builtin; refine wpApp8 rfl (.tmp 52) (.tmp 54) rfl B _ xs rfl ((hown.moved hR hm).moved hm.at_ hm2) _ [12] 1 1 rfl rfl rfl (by omega) (Nat.le_trans (Nat.le_trans hB hm.keep.size) hm2.keep.size) ?_; intro v3 w3 hown3 hk3))
  go_ret2
  exact ⟨_, rfl, hown3, ((hm.trans hm2).toB hB).kept hk3⟩
end Go.Proofs.YtfkjoppehbmomaaGreatDoor
