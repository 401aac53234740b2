/-
  Spans as a program: the answer's text of them.
-/
import Derived.Test.YtddoigjjgcefkaaDoorCl
namespace Go.Proofs.YtddoigjjgcefkaaDoor
open Go.RowKit
set_option maxRecDepth 100000
attribute [local go_sem ↓] Go.wp_at_zero Go.wp_at_succ

theorem hexed4 (n : Nat) (w : World) (hn : (n : Int) ≤ 65535) : Calls Tryd.prog 97 #[.int .i64 n, .int .i64 2] w fun e w' => e = .returned (.string ⟨(hxL (un2 n)).toArray⟩) ∧ Below w.heap.size w w' := by
  have q := hexed_says n 2 w hn (by omega)
  rw [dlow4 n (by omega)] at q
  exact q
theorem hexed2 (n : Nat) (w : World) (hn : (n : Int) ≤ 255) : Calls Tryd.prog 97 #[.int .i64 n, .int .i64 1] w fun e w' => e = .returned (.string ⟨(hxL [UInt8.ofNat n]).toArray⟩) ∧ Below w.heap.size w w' := by
  have q := hexed_says n 1 w (by omega) (by omega)
  rw [dlow2 n (by omega)] at q
  have e : hxL [UInt8.ofNat n] = hx2 (UInt8.ofNat n) := by unfold hxL; simp
  rw [e]
  exact q
theorem hxL_app (a b : List UInt8) : hxL (a ++ b) = hxL a ++ hxL b := by unfold hxL; rw [List.flatMap_append]
set_option maxHeartbeats 1500000 in
theorem rText_false (l : List Sp) (al : Option Addr) (cap : Nat) (w : World) (hA : SpAt w al l) (hf : spFault l false = 0) :
    Calls Tryd.prog 53 #[.slice al l.length cap, .bool false] w fun e w' => e = .returned (.string ⟨(spsT false l).toArray⟩) ∧ Below w.heap.size w w' := by
  have HA := hid hA
  have HF := hid (spFault_ok hf)
  have hl3 : l.length ≤ 300 := (spFault_ok hf).1
  clear hA hf
  go_enter Tryd.func53, Tryd.ntmps53
  go_wp2_with fail
  go_loopw [7, 8] (fun t i wr => ∃ k : Nat, i = .int .i64 k ∧ k ≤ l.length ∧ t = .string ⟨(headT false ++ (l.take k).flatMap (spT false)).toArray⟩ ∧ Below w.heap.size w wr) (fun _ i _ => l.length - (intOf i).toNat)
  case atStart => exact ⟨0, rfl, Nat.zero_le _, congrArg Value.string (by rfl), Below.refl _ _⟩
  case round =>
    obtain ⟨k, rfl, hk, rfl, hB⟩ := hrel
    have hpl : (headT false ++ (l.take k).flatMap (spT false)).length ≤ 170000 := by
      have a := headT_len false
      have b := flat_len false (l.take k) (fun x hx => by
        have q := (HF.out.2 x (List.mem_of_mem_take hx)).2.2.2.1
        have : x.s.data.toList.length = x.s.size := by simp
        omega)
      have c : (l.take k).length ≤ 300 := by rw [List.length_take]; omega
      rw [List.length_append]; omega
    by_cases hkl : k < l.length
    · have hkl' : (k : Int) < l.length := by omega
      have HT := hid (show l.take (k + 1) = l.take k ++ [l[k]] from List.take_succ_eq_append_getElem hkl)
      obtain ⟨f0, f1, f2, hmay⟩ := HF.out.2 l[k] (List.getElem_mem hkl)
      have HG := hid (List.getElem?_eq_getElem hkl)
      obtain ⟨b, off, rfl, hbl, g0, g1, g2, _, _, _⟩ := (HA.out.later hB) k l[k] (List.getElem?_eq_getElem hkl)
      generalize l[k] = x at *
      obtain ⟨xf, xt, s⟩ := x
      dsimp only at f0 f1 f2 hmay g0 g1 g2
      obtain ⟨cf, rfl⟩ : ∃ n : Nat, xf = n := ⟨xf.toNat, by omega⟩
      obtain ⟨ct, rfl⟩ : ∃ n : Nat, xt = n := ⟨xt.toNat, by omega⟩
      obtain ⟨a, r, q1, _, _, _, _, _, _, q8⟩ := mayT_open hmay
      have hrs : runesOf s.data.toList = a ++ [r] := by unfold runesOf; rw [q1]; rfl
      have HS := hid (show spT false ⟨cf, ct, s⟩ = wB ++ (strH (cdB cf false) ++ (32 :: (strH (cdB ct false) ++ (32 :: (strH (unitsL (a ++ [r])) ++ (10 :: wE)))))) by unfold spT; dsimp only; rw [hrs, Int.toNat_natCast, Int.toNat_natCast])
      have hct : (ct : Int) ≤ 255 := f2
      have hcf : (cf : Int) ≤ 255 := by omega
      have hs40 : s.size ≤ 40 := by
        have : s.data.toList.length = s.size := by simp
        omega
      obtain ⟨hok, htx⟩ := rns_some _ _ _ (Nat.le_refl _) q1
      have HOK := hid hok
      have hul := units_len40 q1 q8
      have hrl : (a ++ [r]).length ≤ 40 := by
        have q := (rns_len (a ++ [r])).1
        rw [← htx] at q
        omega
      have HQ := hid q1
      clear f0 f1 f2 hmay q1 q8 hrs hok htx
      generalize a ++ [r] = rs at *
      generalize hpre : headT false ++ (l.take k).flatMap (spT false) = pre at *
      have HPR := hid hpre
      clear hpre
      go_wp2_with (go_at_call 88; fail)
      go_at_call 88
      refine (runes_says s _ (by omega)).mono ?_
      rintro e w1 ⟨⟨h1, rfl⟩ | ⟨rs', v, h1, rfl, ho⟩, hb1⟩
      · rw [HQ.out] at h1; cases h1
      rw [HQ.out] at h1
      injection h1 with h1
      subst h1
      obtain ⟨ar, cr, rfl, hcells⟩ := ho.cells
      have HC := hid hcells
      have hB1 : Below w.heap.size w w1 := chn' hB hb1
      have z0 : b < w1.heap.size := Nat.lt_of_lt_of_le hbl hb1.size
      have k0 := (hb1.cell (p := ⟨b, off + k * 3, none⟩) hbl).trans g0
      have k1 := (hb1.cell (p := ⟨b, off + k * 3 + 1, none⟩) hbl).trans g1
      have HK := hid (And.intro k0 k1)
      clear hcells ho hb1 g0 g1 g2 hB hbl k0 k1
      go_wp2_with fail
      go_loopw [11, 12] (fun t i wq => ∃ j : Nat, i = .int .i64 j ∧ j ≤ rs.length ∧ t = .string ⟨(hxL (unitsL (rs.take j))).toArray⟩ ∧ Below w1.heap.size w1 wq) (fun _ i _ => rs.length - (intOf i).toNat)
      case atStart => exact ⟨0, rfl, Nat.zero_le _, rfl, Below.refl _ _⟩
      case round =>
        obtain ⟨j, rfl, hj, rfl, hbq⟩ := hrel
        have hUl : (hxL (unitsL (rs.take j))).length ≤ 320 := by
          have q := unitsL_len (rs.take j)
          rw [List.length_take] at q
          rw [hxL_len]; omega
        by_cases hjl : j < rs.length
        · have hjl' : (j : Int) < rs.length := by omega
          obtain ⟨g, rfl, _, hgl, gc⟩ := HC.out j rs[j] (List.getElem?_eq_getElem hjl)
          have hor := HOK.out rs[j] (List.getElem_mem hjl)
          have HTJ := hid (show hxL (unitsL (rs.take (j + 1))) = hxL (unitsL (rs.take j)) ++ hxL (unR rs[j]) by rw [List.take_succ_eq_append_getElem hjl, unitsL_snoc, hxL_app])
          have gq := (hbq.cell (p := ⟨g, j, none⟩) hgl).trans gc
          have hgq : g < wr.heap.size := Nat.lt_of_lt_of_le hgl hbq.size
          generalize rs[j] = n at *
          have hn : (n : Int) ≤ 1114111 := by unfold okR at hor; omega
          generalize hU : hxL (unitsL (rs.take j)) = U at *
          clear hU hor gc
          by_cases hn6 : (n : Int) < 65536
          · have E := addB (a := ⟨U.toArray⟩) (b := ⟨(hxL (un2 n)).toArray⟩) (c := ⟨(hxL (unitsL (rs.take (j + 1)))).toArray⟩) (by show U.toArray.size ≤ 1000000; simp; omega) (by show (hxL (un2 n)).toArray.size ≤ 1000000; simp [hxL_len, un2]) (by simp only; rw [HTJ.out]; unfold unR; rw [if_pos (by omega)])
            go_wp2_with (go_at_call 97; go_must (refine (hexed4 n _ (by omega)).mono ?_); rintro e w3 ⟨rfl, hb3⟩)
            go_roundw
            case rel => exact ⟨j + 1, by go_num, by omega, rfl, chn' hbq hb3⟩
            case measure => simp [intOf]; omega
          · obtain ⟨h1, e1, p1⟩ : ∃ h1 : Nat, 55296 + ((n : Int) - 65536) / 1024 = h1 ∧ h1 = 55296 + (n - 65536) / 1024 := ⟨55296 + (n - 65536) / 1024, by omega, rfl⟩
            obtain ⟨l1, e2, p2⟩ : ∃ l1 : Nat, 56320 + ((n : Int) - 65536) % 1024 = l1 ∧ l1 = 56320 + (n - 65536) % 1024 := ⟨56320 + (n - 65536) % 1024, by omega, rfl⟩
            have E1 := addB (a := ⟨U.toArray⟩) (b := ⟨(hxL (un2 h1)).toArray⟩) (c := ⟨(U ++ hxL (un2 h1)).toArray⟩) (by show U.toArray.size ≤ 1000000; simp; omega) (by show (hxL (un2 h1)).toArray.size ≤ 1000000; simp [hxL_len, un2]) (by simp)
            have E2 := addB (a := ⟨(U ++ hxL (un2 h1)).toArray⟩) (b := ⟨(hxL (un2 l1)).toArray⟩) (c := ⟨(hxL (unitsL (rs.take (j + 1)))).toArray⟩) (by show (U ++ hxL (un2 h1)).toArray.size ≤ 1000000; simp [hxL_len, un2]; omega) (by show (hxL (un2 l1)).toArray.size ≤ 1000000; simp [hxL_len, un2]) (by simp only; rw [HTJ.out]; unfold unR; rw [if_neg (by omega), hxL_app, p1, p2]; simp)
            have hb1' : (h1 : Int) ≤ 65535 := by omega
            have hl1' : (l1 : Int) ≤ 65535 := by omega
            clear p1 p2
            have w0 : IntKind.i64.wrap ((n : Int) - 65536) = (n : Int) - 65536 := IntWalk.i64_in _ (by omega)
            have HW1 := hid (show IntKind.i64.wrap (55296 + IntKind.i64.wrap ((IntKind.i64.wrap ((n : Int) - 65536)).tdiv 1024)) = (h1 : Int) by
              rw [w0, Int.tdiv_eq_ediv_of_nonneg (by omega), IntWalk.i64_in (((n : Int) - 65536) / 1024) (by omega), e1]
              exact IntWalk.i64_in _ (by omega))
            have HW2 := hid (show IntKind.i64.wrap (56320 + (IntKind.i64.wrap ((n : Int) - 65536)).tmod 1024) = (l1 : Int) by
              rw [w0, Int.tmod_eq_emod_of_nonneg (by omega), e2]
              exact IntWalk.i64_in _ (by omega))
            clear w0 e1 e2
            go_wp2_with fail
            go_region_with (first | (have := hb3; go_at_call 97; rw [HW2.out]; refine (hexed4 l1 _ hl1').mono ?_; rintro e w4 ⟨rfl, hb4⟩) | (go_at_call 97; rw [HW1.out]; refine (hexed4 h1 _ hb1').mono ?_; rintro e w3 ⟨rfl, hb3⟩; have g3 := hb3.cell (p := ⟨g, j, none⟩) hgq))
            all_goals
              go_wp2_with fail
              go_roundw
              case rel => exact ⟨j + 1, by go_num, by omega, rfl, chn' hbq (chn' (below_undrew hb3) hb4)⟩
              case measure => simp [intOf]; omega
        · have hjl' : ¬ (j : Int) < rs.length := by omega
          have hU : hxL (unitsL (rs.take j)) = hxL (unitsL rs) := by rw [List.take_of_length_le (by omega)]
          rw [hU] at hUl ⊢
          have c0 := (hbq.cell (p := ⟨b, off + k * 3, none⟩) z0).trans HK.out.1
          have c1 := (hbq.cell (p := ⟨b, off + k * 3 + 1, none⟩) z0).trans HK.out.2
          have zq : b < wr.heap.size := Nat.lt_of_lt_of_le z0 hbq.size
          have hU8 : (hxL (unitsL rs)).length ≤ 320 := by rw [hxL_len]; omega
          have hcl := cdB_len cf false
          have hcl2 := cdB_len ct false
          obtain ⟨X1, hX1⟩ : ∃ X, X = hxL (cdB cf false) := ⟨_, rfl⟩
          obtain ⟨X2, hX2⟩ : ∃ X, X = hxL (cdB ct false) := ⟨_, rfl⟩
          have hX1l : X1.length ≤ 4 := by rw [hX1, hxL_len]; omega
          have hX2l : X2.length ≤ 4 := by rw [hX2, hxL_len]; omega
          generalize hU2 : hxL (unitsL rs) = U at *
          have hx1 := fun W => hexed2 cf W hcf
          have hx2 := fun W => hexed2 ct W hct
          rw [show hxL ([UInt8.ofNat cf]) = X1 from hX1.symm] at hx1
          rw [show hxL ([UInt8.ofNat ct]) = X2 from hX2.symm] at hx2
          have HP7 := hid (show pre ++ (wB ++ [60]) ++ X1 ++ [62, 32, 60] ++ X2 ++ [62, 32, 60] ++ U ++ (62 :: 10 :: wE) = headT false ++ (l.take (k + 1)).flatMap (spT false) by
            rw [HT.out, List.flatMap_append, List.flatMap_singleton, HS.out, ← HPR.out]
            unfold strH
            rw [hX1, hX2, ← hU2]
            simp)
          clear hX1 hX2 hU hUl hU2
          obtain ⟨P7, hP7⟩ : ∃ P, P = headT false ++ (l.take (k + 1)).flatMap (spT false) := ⟨_, rfl⟩
          have HP8 := hid hP7
          have E1 := addB (a := ⟨pre.toArray⟩) (b := ⟨#[49, 32, 98, 101, 103, 105, 110, 98, 102, 114, 97, 110, 103, 101, 10, 60]⟩) (c := ⟨(pre ++ (wB ++ [60])).toArray⟩) (by show pre.toArray.size ≤ 1000000; simp; omega) (by decide) (by simp [wB])
          have E2 := addB (a := ⟨(pre ++ (wB ++ [60])).toArray⟩) (b := ⟨X1.toArray⟩) (c := ⟨(pre ++ (wB ++ [60]) ++ X1).toArray⟩) (by show (pre ++ (wB ++ [60])).toArray.size ≤ 1000000; simp [wB]; omega) (by show X1.toArray.size ≤ 1000000; simp; omega) (by simp)
          have E3 := addB (a := ⟨(pre ++ (wB ++ [60]) ++ X1).toArray⟩) (b := ⟨#[62, 32, 60]⟩) (c := ⟨(pre ++ (wB ++ [60]) ++ X1 ++ [62, 32, 60]).toArray⟩) (by show (pre ++ (wB ++ [60]) ++ X1).toArray.size ≤ 1000000; simp [wB]; omega) (by decide) (by simp)
          have E4 := addB (a := ⟨(pre ++ (wB ++ [60]) ++ X1 ++ [62, 32, 60]).toArray⟩) (b := ⟨X2.toArray⟩) (c := ⟨(pre ++ (wB ++ [60]) ++ X1 ++ [62, 32, 60] ++ X2).toArray⟩) (by show (pre ++ (wB ++ [60]) ++ X1 ++ [62, 32, 60]).toArray.size ≤ 1000000; simp [wB]; omega) (by show X2.toArray.size ≤ 1000000; simp; omega) (by simp)
          have E5 := addB (a := ⟨(pre ++ (wB ++ [60]) ++ X1 ++ [62, 32, 60] ++ X2).toArray⟩) (b := ⟨#[62, 32, 60]⟩) (c := ⟨(pre ++ (wB ++ [60]) ++ X1 ++ [62, 32, 60] ++ X2 ++ [62, 32, 60]).toArray⟩) (by show (pre ++ (wB ++ [60]) ++ X1 ++ [62, 32, 60] ++ X2).toArray.size ≤ 1000000; simp [wB]; omega) (by decide) (by simp)
          have E6 := addB (a := ⟨(pre ++ (wB ++ [60]) ++ X1 ++ [62, 32, 60] ++ X2 ++ [62, 32, 60]).toArray⟩) (b := ⟨U.toArray⟩) (c := ⟨(pre ++ (wB ++ [60]) ++ X1 ++ [62, 32, 60] ++ X2 ++ [62, 32, 60] ++ U).toArray⟩) (by show (pre ++ (wB ++ [60]) ++ X1 ++ [62, 32, 60] ++ X2 ++ [62, 32, 60]).toArray.size ≤ 1000000; simp [wB]; omega) (by show U.toArray.size ≤ 1000000; simp; omega) (by simp)
          have E7 := addB (a := ⟨(pre ++ (wB ++ [60]) ++ X1 ++ [62, 32, 60] ++ X2 ++ [62, 32, 60] ++ U).toArray⟩) (b := ⟨#[62, 10, 101, 110, 100, 98, 102, 114, 97, 110, 103, 101, 10]⟩) (c := ⟨P7.toArray⟩) (by show (pre ++ (wB ++ [60]) ++ X1 ++ [62, 32, 60] ++ X2 ++ [62, 32, 60] ++ U).toArray.size ≤ 1000000; simp [wB]; omega) (by decide) (by
            rw [hP7, ← HP7.out]; simp [wE])
          clear hP7
          generalize pre ++ (wB ++ [60]) ++ X1 ++ [62, 32, 60] ++ X2 ++ [62, 32, 60] ++ U = Y6 at *
          generalize pre ++ (wB ++ [60]) ++ X1 ++ [62, 32, 60] ++ X2 ++ [62, 32, 60] = Y5 at *
          generalize pre ++ (wB ++ [60]) ++ X1 ++ [62, 32, 60] ++ X2 = Y4 at *
          generalize pre ++ (wB ++ [60]) ++ X1 ++ [62, 32, 60] = Y3 at *
          generalize pre ++ (wB ++ [60]) ++ X1 = Y2 at *
          generalize pre ++ (wB ++ [60]) = Y1 at *
          go_wp2_with fail
          go_region_with (first | (have := hb3; go_at_call 97; refine (hx2 _).mono ?_; rintro e w4 ⟨rfl, hb4⟩) | (go_at_call 97; refine (hx1 _).mono ?_; rintro e w3 ⟨rfl, hb3⟩; have g3 := hb3.cell (p := ⟨b, off + k * 3 + 1, none⟩) zq))
          all_goals
            go_wp2_with fail
            go_roundw
            case rel => exact ⟨k + 1, by go_num, by omega, by rw [← HP8.out], chn' hB1 (chn' hbq (chn' (below_undrew hb3) hb4))⟩
            case measure => simp [intOf]; omega
    · have hkl' : ¬ (k : Int) < l.length := by omega
      go_wp2_with fail
      go_ret
      refine ⟨?_, hB⟩
      rw [List.take_of_length_le (by omega)]
      rfl
set_option maxHeartbeats 1500000 in
theorem rText_true (l : List Sp) (al : Option Addr) (cap : Nat) (w : World) (hA : SpAt w al l) (hf : spFault l true = 0) :
    Calls Tryd.prog 53 #[.slice al l.length cap, .bool true] w fun e w' => e = .returned (.string ⟨(spsT true l).toArray⟩) ∧ Below w.heap.size w w' := by
  have HA := hid hA
  have HF := hid (spFault_ok hf)
  have hl3 : l.length ≤ 300 := (spFault_ok hf).1
  clear hA hf
  go_enter Tryd.func53, Tryd.ntmps53
  go_wp2_with fail
  go_loopw [7, 8] (fun t i wr => ∃ k : Nat, i = .int .i64 k ∧ k ≤ l.length ∧ t = .string ⟨(headT true ++ (l.take k).flatMap (spT true)).toArray⟩ ∧ Below w.heap.size w wr) (fun _ i _ => l.length - (intOf i).toNat)
  case atStart => exact ⟨0, rfl, Nat.zero_le _, congrArg Value.string (by rfl), Below.refl _ _⟩
  case round =>
    obtain ⟨k, rfl, hk, rfl, hB⟩ := hrel
    have hpl : (headT true ++ (l.take k).flatMap (spT true)).length ≤ 170000 := by
      have a := headT_len true
      have b := flat_len true (l.take k) (fun x hx => by
        have q := (HF.out.2 x (List.mem_of_mem_take hx)).2.2.2.1
        have : x.s.data.toList.length = x.s.size := by simp
        omega)
      have c : (l.take k).length ≤ 300 := by rw [List.length_take]; omega
      rw [List.length_append]; omega
    by_cases hkl : k < l.length
    · have hkl' : (k : Int) < l.length := by omega
      have HT := hid (show l.take (k + 1) = l.take k ++ [l[k]] from List.take_succ_eq_append_getElem hkl)
      obtain ⟨f0, f1, f2, hmay⟩ := HF.out.2 l[k] (List.getElem_mem hkl)
      have HG := hid (List.getElem?_eq_getElem hkl)
      obtain ⟨b, off, rfl, hbl, g0, g1, g2, _, _, _⟩ := (HA.out.later hB) k l[k] (List.getElem?_eq_getElem hkl)
      generalize l[k] = x at *
      obtain ⟨xf, xt, s⟩ := x
      dsimp only at f0 f1 f2 hmay g0 g1 g2
      obtain ⟨cf, rfl⟩ : ∃ n : Nat, xf = n := ⟨xf.toNat, by omega⟩
      obtain ⟨ct, rfl⟩ : ∃ n : Nat, xt = n := ⟨xt.toNat, by omega⟩
      obtain ⟨a, r, q1, _, _, _, _, _, _, q8⟩ := mayT_open hmay
      have hrs : runesOf s.data.toList = a ++ [r] := by unfold runesOf; rw [q1]; rfl
      have HS := hid (show spT true ⟨cf, ct, s⟩ = wB ++ (strH (cdB cf true) ++ (32 :: (strH (cdB ct true) ++ (32 :: (strH (unitsL (a ++ [r])) ++ (10 :: wE)))))) by unfold spT; dsimp only; rw [hrs, Int.toNat_natCast, Int.toNat_natCast])
      have hct : (ct : Int) ≤ 65535 := f2
      have hcf : (cf : Int) ≤ 65535 := by omega
      have hs40 : s.size ≤ 40 := by
        have : s.data.toList.length = s.size := by simp
        omega
      obtain ⟨hok, htx⟩ := rns_some _ _ _ (Nat.le_refl _) q1
      have HOK := hid hok
      have hul := units_len40 q1 q8
      have hrl : (a ++ [r]).length ≤ 40 := by
        have q := (rns_len (a ++ [r])).1
        rw [← htx] at q
        omega
      have HQ := hid q1
      clear f0 f1 f2 hmay q1 q8 hrs hok htx
      generalize a ++ [r] = rs at *
      generalize hpre : headT true ++ (l.take k).flatMap (spT true) = pre at *
      have HPR := hid hpre
      clear hpre
      go_wp2_with (go_at_call 88; fail)
      go_at_call 88
      refine (runes_says s _ (by omega)).mono ?_
      rintro e w1 ⟨⟨h1, rfl⟩ | ⟨rs', v, h1, rfl, ho⟩, hb1⟩
      · rw [HQ.out] at h1; cases h1
      rw [HQ.out] at h1
      injection h1 with h1
      subst h1
      obtain ⟨ar, cr, rfl, hcells⟩ := ho.cells
      have HC := hid hcells
      have hB1 : Below w.heap.size w w1 := chn' hB hb1
      have z0 : b < w1.heap.size := Nat.lt_of_lt_of_le hbl hb1.size
      have k0 := (hb1.cell (p := ⟨b, off + k * 3, none⟩) hbl).trans g0
      have k1 := (hb1.cell (p := ⟨b, off + k * 3 + 1, none⟩) hbl).trans g1
      have HK := hid (And.intro k0 k1)
      clear hcells ho hb1 g0 g1 g2 hB hbl k0 k1
      go_wp2_with fail
      go_loopw [11, 12] (fun t i wq => ∃ j : Nat, i = .int .i64 j ∧ j ≤ rs.length ∧ t = .string ⟨(hxL (unitsL (rs.take j))).toArray⟩ ∧ Below w1.heap.size w1 wq) (fun _ i _ => rs.length - (intOf i).toNat)
      case atStart => exact ⟨0, rfl, Nat.zero_le _, rfl, Below.refl _ _⟩
      case round =>
        obtain ⟨j, rfl, hj, rfl, hbq⟩ := hrel
        have hUl : (hxL (unitsL (rs.take j))).length ≤ 320 := by
          have q := unitsL_len (rs.take j)
          rw [List.length_take] at q
          rw [hxL_len]; omega
        by_cases hjl : j < rs.length
        · have hjl' : (j : Int) < rs.length := by omega
          obtain ⟨g, rfl, _, hgl, gc⟩ := HC.out j rs[j] (List.getElem?_eq_getElem hjl)
          have hor := HOK.out rs[j] (List.getElem_mem hjl)
          have HTJ := hid (show hxL (unitsL (rs.take (j + 1))) = hxL (unitsL (rs.take j)) ++ hxL (unR rs[j]) by rw [List.take_succ_eq_append_getElem hjl, unitsL_snoc, hxL_app])
          have gq := (hbq.cell (p := ⟨g, j, none⟩) hgl).trans gc
          have hgq : g < wr.heap.size := Nat.lt_of_lt_of_le hgl hbq.size
          generalize rs[j] = n at *
          have hn : (n : Int) ≤ 1114111 := by unfold okR at hor; omega
          generalize hU : hxL (unitsL (rs.take j)) = U at *
          clear hU hor gc
          by_cases hn6 : (n : Int) < 65536
          · have E := addB (a := ⟨U.toArray⟩) (b := ⟨(hxL (un2 n)).toArray⟩) (c := ⟨(hxL (unitsL (rs.take (j + 1)))).toArray⟩) (by show U.toArray.size ≤ 1000000; simp; omega) (by show (hxL (un2 n)).toArray.size ≤ 1000000; simp [hxL_len, un2]) (by simp only; rw [HTJ.out]; unfold unR; rw [if_pos (by omega)])
            go_wp2_with (go_at_call 97; go_must (refine (hexed4 n _ (by omega)).mono ?_); rintro e w3 ⟨rfl, hb3⟩)
            go_roundw
            case rel => exact ⟨j + 1, by go_num, by omega, rfl, chn' hbq hb3⟩
            case measure => simp [intOf]; omega
          · obtain ⟨h1, e1, p1⟩ : ∃ h1 : Nat, 55296 + ((n : Int) - 65536) / 1024 = h1 ∧ h1 = 55296 + (n - 65536) / 1024 := ⟨55296 + (n - 65536) / 1024, by omega, rfl⟩
            obtain ⟨l1, e2, p2⟩ : ∃ l1 : Nat, 56320 + ((n : Int) - 65536) % 1024 = l1 ∧ l1 = 56320 + (n - 65536) % 1024 := ⟨56320 + (n - 65536) % 1024, by omega, rfl⟩
            have E1 := addB (a := ⟨U.toArray⟩) (b := ⟨(hxL (un2 h1)).toArray⟩) (c := ⟨(U ++ hxL (un2 h1)).toArray⟩) (by show U.toArray.size ≤ 1000000; simp; omega) (by show (hxL (un2 h1)).toArray.size ≤ 1000000; simp [hxL_len, un2]) (by simp)
            have E2 := addB (a := ⟨(U ++ hxL (un2 h1)).toArray⟩) (b := ⟨(hxL (un2 l1)).toArray⟩) (c := ⟨(hxL (unitsL (rs.take (j + 1)))).toArray⟩) (by show (U ++ hxL (un2 h1)).toArray.size ≤ 1000000; simp [hxL_len, un2]; omega) (by show (hxL (un2 l1)).toArray.size ≤ 1000000; simp [hxL_len, un2]) (by simp only; rw [HTJ.out]; unfold unR; rw [if_neg (by omega), hxL_app, p1, p2]; simp)
            have hb1' : (h1 : Int) ≤ 65535 := by omega
            have hl1' : (l1 : Int) ≤ 65535 := by omega
            clear p1 p2
            have w0 : IntKind.i64.wrap ((n : Int) - 65536) = (n : Int) - 65536 := IntWalk.i64_in _ (by omega)
            have HW1 := hid (show IntKind.i64.wrap (55296 + IntKind.i64.wrap ((IntKind.i64.wrap ((n : Int) - 65536)).tdiv 1024)) = (h1 : Int) by
              rw [w0, Int.tdiv_eq_ediv_of_nonneg (by omega), IntWalk.i64_in (((n : Int) - 65536) / 1024) (by omega), e1]
              exact IntWalk.i64_in _ (by omega))
            have HW2 := hid (show IntKind.i64.wrap (56320 + (IntKind.i64.wrap ((n : Int) - 65536)).tmod 1024) = (l1 : Int) by
              rw [w0, Int.tmod_eq_emod_of_nonneg (by omega), e2]
              exact IntWalk.i64_in _ (by omega))
            clear w0 e1 e2
            go_wp2_with fail
            go_region_with (first | (have := hb3; go_at_call 97; rw [HW2.out]; refine (hexed4 l1 _ hl1').mono ?_; rintro e w4 ⟨rfl, hb4⟩) | (go_at_call 97; rw [HW1.out]; refine (hexed4 h1 _ hb1').mono ?_; rintro e w3 ⟨rfl, hb3⟩; have g3 := hb3.cell (p := ⟨g, j, none⟩) hgq))
            all_goals
              go_wp2_with fail
              go_roundw
              case rel => exact ⟨j + 1, by go_num, by omega, rfl, chn' hbq (chn' (below_undrew hb3) hb4)⟩
              case measure => simp [intOf]; omega
        · have hjl' : ¬ (j : Int) < rs.length := by omega
          have hU : hxL (unitsL (rs.take j)) = hxL (unitsL rs) := by rw [List.take_of_length_le (by omega)]
          rw [hU] at hUl ⊢
          have c0 := (hbq.cell (p := ⟨b, off + k * 3, none⟩) z0).trans HK.out.1
          have c1 := (hbq.cell (p := ⟨b, off + k * 3 + 1, none⟩) z0).trans HK.out.2
          have zq : b < wr.heap.size := Nat.lt_of_lt_of_le z0 hbq.size
          have hU8 : (hxL (unitsL rs)).length ≤ 320 := by rw [hxL_len]; omega
          have hcl := cdB_len cf true
          have hcl2 := cdB_len ct true
          obtain ⟨X1, hX1⟩ : ∃ X, X = hxL (cdB cf true) := ⟨_, rfl⟩
          obtain ⟨X2, hX2⟩ : ∃ X, X = hxL (cdB ct true) := ⟨_, rfl⟩
          have hX1l : X1.length ≤ 4 := by rw [hX1, hxL_len]; omega
          have hX2l : X2.length ≤ 4 := by rw [hX2, hxL_len]; omega
          generalize hU2 : hxL (unitsL rs) = U at *
          have hx1 := fun W => hexed4 cf W hcf
          have hx2 := fun W => hexed4 ct W hct
          rw [show hxL (un2 cf) = X1 from hX1.symm] at hx1
          rw [show hxL (un2 ct) = X2 from hX2.symm] at hx2
          have HP7 := hid (show pre ++ (wB ++ [60]) ++ X1 ++ [62, 32, 60] ++ X2 ++ [62, 32, 60] ++ U ++ (62 :: 10 :: wE) = headT true ++ (l.take (k + 1)).flatMap (spT true) by
            rw [HT.out, List.flatMap_append, List.flatMap_singleton, HS.out, ← HPR.out]
            unfold strH
            rw [hX1, hX2, ← hU2]
            simp)
          clear hX1 hX2 hU hUl hU2
          obtain ⟨P7, hP7⟩ : ∃ P, P = headT true ++ (l.take (k + 1)).flatMap (spT true) := ⟨_, rfl⟩
          have HP8 := hid hP7
          have E1 := addB (a := ⟨pre.toArray⟩) (b := ⟨#[49, 32, 98, 101, 103, 105, 110, 98, 102, 114, 97, 110, 103, 101, 10, 60]⟩) (c := ⟨(pre ++ (wB ++ [60])).toArray⟩) (by show pre.toArray.size ≤ 1000000; simp; omega) (by decide) (by simp [wB])
          have E2 := addB (a := ⟨(pre ++ (wB ++ [60])).toArray⟩) (b := ⟨X1.toArray⟩) (c := ⟨(pre ++ (wB ++ [60]) ++ X1).toArray⟩) (by show (pre ++ (wB ++ [60])).toArray.size ≤ 1000000; simp [wB]; omega) (by show X1.toArray.size ≤ 1000000; simp; omega) (by simp)
          have E3 := addB (a := ⟨(pre ++ (wB ++ [60]) ++ X1).toArray⟩) (b := ⟨#[62, 32, 60]⟩) (c := ⟨(pre ++ (wB ++ [60]) ++ X1 ++ [62, 32, 60]).toArray⟩) (by show (pre ++ (wB ++ [60]) ++ X1).toArray.size ≤ 1000000; simp [wB]; omega) (by decide) (by simp)
          have E4 := addB (a := ⟨(pre ++ (wB ++ [60]) ++ X1 ++ [62, 32, 60]).toArray⟩) (b := ⟨X2.toArray⟩) (c := ⟨(pre ++ (wB ++ [60]) ++ X1 ++ [62, 32, 60] ++ X2).toArray⟩) (by show (pre ++ (wB ++ [60]) ++ X1 ++ [62, 32, 60]).toArray.size ≤ 1000000; simp [wB]; omega) (by show X2.toArray.size ≤ 1000000; simp; omega) (by simp)
          have E5 := addB (a := ⟨(pre ++ (wB ++ [60]) ++ X1 ++ [62, 32, 60] ++ X2).toArray⟩) (b := ⟨#[62, 32, 60]⟩) (c := ⟨(pre ++ (wB ++ [60]) ++ X1 ++ [62, 32, 60] ++ X2 ++ [62, 32, 60]).toArray⟩) (by show (pre ++ (wB ++ [60]) ++ X1 ++ [62, 32, 60] ++ X2).toArray.size ≤ 1000000; simp [wB]; omega) (by decide) (by simp)
          have E6 := addB (a := ⟨(pre ++ (wB ++ [60]) ++ X1 ++ [62, 32, 60] ++ X2 ++ [62, 32, 60]).toArray⟩) (b := ⟨U.toArray⟩) (c := ⟨(pre ++ (wB ++ [60]) ++ X1 ++ [62, 32, 60] ++ X2 ++ [62, 32, 60] ++ U).toArray⟩) (by show (pre ++ (wB ++ [60]) ++ X1 ++ [62, 32, 60] ++ X2 ++ [62, 32, 60]).toArray.size ≤ 1000000; simp [wB]; omega) (by show U.toArray.size ≤ 1000000; simp; omega) (by simp)
          have E7 := addB (a := ⟨(pre ++ (wB ++ [60]) ++ X1 ++ [62, 32, 60] ++ X2 ++ [62, 32, 60] ++ U).toArray⟩) (b := ⟨#[62, 10, 101, 110, 100, 98, 102, 114, 97, 110, 103, 101, 10]⟩) (c := ⟨P7.toArray⟩) (by show (pre ++ (wB ++ [60]) ++ X1 ++ [62, 32, 60] ++ X2 ++ [62, 32, 60] ++ U).toArray.size ≤ 1000000; simp [wB]; omega) (by decide) (by
            rw [hP7, ← HP7.out]; simp [wE])
          clear hP7
          generalize pre ++ (wB ++ [60]) ++ X1 ++ [62, 32, 60] ++ X2 ++ [62, 32, 60] ++ U = Y6 at *
          generalize pre ++ (wB ++ [60]) ++ X1 ++ [62, 32, 60] ++ X2 ++ [62, 32, 60] = Y5 at *
          generalize pre ++ (wB ++ [60]) ++ X1 ++ [62, 32, 60] ++ X2 = Y4 at *
          generalize pre ++ (wB ++ [60]) ++ X1 ++ [62, 32, 60] = Y3 at *
          generalize pre ++ (wB ++ [60]) ++ X1 = Y2 at *
          generalize pre ++ (wB ++ [60]) = Y1 at *
          go_wp2_with fail
          go_region_with (first | (have := hb3; go_at_call 97; refine (hx2 _).mono ?_; rintro e w4 ⟨rfl, hb4⟩) | (go_at_call 97; refine (hx1 _).mono ?_; rintro e w3 ⟨rfl, hb3⟩; have g3 := hb3.cell (p := ⟨b, off + k * 3 + 1, none⟩) zq))
          all_goals
            go_wp2_with fail
            go_roundw
            case rel => exact ⟨k + 1, by go_num, by omega, by rw [← HP8.out], chn' hB1 (chn' hbq (chn' (below_undrew hb3) hb4))⟩
            case measure => simp [intOf]; omega
    · have hkl' : ¬ (k : Int) < l.length := by omega
      go_wp2_with fail
      go_ret
      refine ⟨?_, hB⟩
      rw [List.take_of_length_le (by omega)]
      rfl
end Go.Proofs.YtddoigjjgcefkaaDoor
