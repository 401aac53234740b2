/-
  Reading a program: strings of digits.
-/
import Derived.Test.YtggojafapieliabDoorDa
import Derived.Test.YtggojafapieliabDoorCf
namespace Go.Proofs.YtggojafapieliabDoor
open Go.RowKit
set_option maxRecDepth 100000
attribute [local go_sem ↓] Go.wp_at_zero Go.wp_at_succ

theorem hexV_dgt {x : Nat} (h : x < 16) : hexV (dgt x) = (x : Int) := by
  have q : ∀ x : Fin 16, hexV (dgt x.1) = (x.1 : Int) := by decide
  exact q ⟨x, h⟩
theorem trimP1 (l : List UInt8) (c : UInt8) : Lib.trimPrefix (c :: l) [c] = l ∧ Lib.hasPrefix (c :: l) [c] = true := by
  have h : Lib.hasPrefix (c :: l) [c] = true := by unfold Lib.hasPrefix; simp [List.isPrefixOf]
  unfold Lib.trimPrefix
  rw [if_pos h]
  exact ⟨rfl, h⟩
theorem trimS1 (l : List UInt8) (c : UInt8) : Lib.trimSuffix (l ++ [c]) [c] = l := by
  have h : Lib.hasSuffix (l ++ [c]) [c] = true := by unfold Lib.hasSuffix; rw [List.isSuffixOf_iff_suffix]; exact List.suffix_append _ _
  unfold Lib.trimSuffix
  rw [if_pos h]
  simp
theorem or16 {x y : Nat} (hx : x < 16) (hy : y < 16) : bits .or .i64 ((x : Int) * 16) (y : Int) = (x : Int) * 16 + y := by
  have q : ∀ x y : Fin 16, bits .or .i64 ((x.1 : Int) * 16) (y.1 : Int) = (x.1 : Int) * 16 + y.1 := by decide
  exact q ⟨x, hx⟩ ⟨y, hy⟩
set_option maxHeartbeats 2000000 in
theorem stringBytes_says (t : ByteArray) (bs : List UInt8) (w : World) (ht : t.data.toList = strH bs) (hl : bs.length ≤ 1000) :
    Calls Tryd.prog 67 #[.string t, .nilIface] w fun e w' => ∃ v, e = .returned (.tuple #[v, .nilIface]) ∧ Own8 w' w.heap.size v bs ∧ Below w.heap.size w w' := by
  have H1 := hid (fun W => Tryd.strings_CutPrefix t ⟨#[60]⟩ W)
  have e1 := trimP1 (hxL bs ++ [62]) 60
  have H1' := hid (fun W => by
    have q := H1.out W
    rw [ht] at q
    unfold strH at q
    rw [show (⟨#[60]⟩ : ByteArray).data.toList = [60] from rfl, e1.1, e1.2] at q
    exact q)
  have H2' := hid (fun W => by
    have q := Tryd.strings_TrimSuffix ⟨(hxL bs ++ [62]).toArray⟩ ⟨#[62]⟩ W (by show (hxL bs ++ [62]).toArray.size ≤ _; simp [hxL_len]; omega)
    rw [show (⟨#[62]⟩ : ByteArray).data.toList = [62] from rfl] at q
    simp only [trimS1] at q
    exact q)
  clear H1 e1 ht
  have hds : ((⟨(hxL bs).toArray⟩ : ByteArray).size : Int) = 2 * bs.length := by
    show ((hxL bs).toArray.size : Int) = _
    rw [List.size_toArray, hxL_len]; omega
  have hev : (((hxL bs).length : Int) % 2 != 0) = false := by rw [hxL_len]; simp
  clear hds
  go_enter Tryd.func67, Tryd.ntmps67
  go_wp2_with (go_at_call 60; fail)
  go_at_call 60
  refine (H1'.out _).mono ?_
  rintro e w1 ⟨rfl, rfl⟩
  go_wp2_with (go_at_call 90; fail)
  go_at_call 90
  refine (H2'.out _).mono ?_
  rintro e w1 ⟨rfl, rfl⟩
  clear H1' H2'
  go_wp2_with fail
  go_loopw [6, 8] (fun d v wr => ∃ k : Nat, k ≤ bs.length ∧ d = .string ⟨(hxL (bs.drop k)).toArray⟩ ∧ Own8 wr w1.heap.size v (bs.take k) ∧ Below w1.heap.size w1 wr) (fun d _ _ => match d with | .string x => x.size | _ => 0)
  case atStart => exact ⟨0, Nat.zero_le _, by rw [List.drop_zero], Own8.nil _ _, Below.refl _ _⟩
  case round =>
    obtain ⟨k, hk, rfl, hown, hB⟩ := hrel
    have hBs := hB.size
    by_cases hkl : k < bs.length
    · have hd : bs.drop k = bs[k] :: bs.drop (k + 1) := List.drop_eq_getElem_cons hkl
      have HT := hid (show bs.take (k + 1) = bs.take k ++ [bs[k]] from List.take_succ_eq_append_getElem hkl)
      have htl : (bs.take k).length ≤ 1000 := by rw [List.length_take]; omega
      have hc := bs[k].toNat_lt
      generalize bs[k] = c at *
      obtain ⟨x, y, ex, ey, hx, hy⟩ : ∃ x y : Nat, c.toNat / 16 = x ∧ c.toNat % 16 = y ∧ x < 16 ∧ y < 16 := ⟨_, _, rfl, rfl, by omega, by omega⟩
      obtain ⟨R, hR⟩ : ∃ R, R = hxL (bs.drop (k + 1)) := ⟨_, rfl⟩
      have hD : hxL (bs.drop k) = dgt x :: dgt y :: R := by rw [hd, hR, ← ex, ← ey]; rfl
      have hRl : R.length ≤ 2000 := by rw [hR, hxL_len, List.length_drop]; omega
      have HR := hid hR
      rw [hD]
      have hcv : c.toNat = x * 16 + y := by omega
      obtain ⟨D, hDe⟩ : ∃ D : ByteArray, D = ⟨(dgt x :: dgt y :: R).toArray⟩ := ⟨_, rfl⟩
      have hDs : D.size = R.length + 2 := by rw [hDe]; show (dgt x :: dgt y :: R).toArray.size = _; simp
      have d0 : (D[0]'(by omega)) = dgt x := by subst hDe; rfl
      have d1 : (D[1]'(by omega)) = dgt y := by subst hDe; rfl
      have hDx : D.extract 2 D.size = ⟨R.toArray⟩ := by
        subst hDe
        apply Go.WideShapes.bytes_inj
        simp
        rw [hDs, Nat.add_sub_cancel, List.take_of_length_le (Nat.le_refl _)]
      rw [← hDe]
      have hie : D.toList.isEmpty = false := by cases hh : D.toList with
        | nil => have := (toListNil D).1 hh; omega
        | cons a l => rfl
      have hor := or16 hx hy
      have hDs' : (D.size : Int) = (R.length : Int) + 2 := by omega
      have HX := hid (fun W => by have q := pHex (dgt x) W; rw [hexV_dgt hx] at q; exact q)
      have HY := hid (fun W => by have q := pHex (dgt y) W; rw [hexV_dgt hy] at q; exact q)
      have hD2 : (2 : Int) ≤ (D.size : Int) := by omega
      have hx' : ¬ (x : Int) < 0 := by omega
      have hy' : ¬ (y : Int) < 0 := by omega
      have hxy : (x : Int) * 16 + y < 256 := by omega
      have hx16 : (x : Int) < 16 := by omega
      have HCV := hid hcv
      have HDX := hid hDx
      have HDS := hid hDs
      clear hd hc ex ey hD hR hDe hcv hev
      go_wp2_with fail
      go_region_with (first | (have := hqq; go_at_call 91; refine (HY.out _).mono ?_; rintro e ww ⟨rfl, rfl⟩) | (go_at_call 91; refine (HX.out _).mono ?_; rintro e ww ⟨rfl, rfl⟩; have hqq : True := trivial))
      all_goals
        go_wp2_with (at_builtin; refine wpApp8 (W := wr.drew) rfl (.tmp 47) (.tmp 53) rfl w1.heap.size u8 (bs.take k) rfl hown _ [c] 1 1 rfl rfl ?cc (by omega) (by exact hBs) ?_)
        case cc => exact one8 (by rw [HCV.out]; push_cast; omega)
        intro v2 w2 ho2 hk2
        have hb2 : Below w1.heap.size w1 w2 := (hB.drew).trans hk2.below
        clear hown hk2 hB
        go_wp2
        go_roundw
        case rel => exact ⟨k + 1, by omega, by rw [← HR.out, ← HDS.out]; exact congrArg _ HDX.out, by rw [HT.out]; exact ho2, hb2⟩
        case measure => simp; omega
    · obtain rfl : k = bs.length := by omega
      rw [List.drop_eq_nil_of_le (Nat.le_refl _)]
      rw [List.take_of_length_le (Nat.le_refl _)] at hown
      go_wp2_with fail
      go_ret2
      exact ⟨u8, rfl, hown, hB⟩
end Go.Proofs.YtggojafapieliabDoor
