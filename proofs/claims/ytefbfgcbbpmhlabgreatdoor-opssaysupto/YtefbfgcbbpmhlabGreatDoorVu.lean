/-
  Joined: Vp, Vt, Vu.
-/
import Derived.Test.YtefbfgcbbpmhlabGreatDoorVo
import Derived.Deep.CutRange
import Derived.Deep.CutBlock
import Derived.Deep.RegionHeld3

/-
  The document's own text of a value.
-/
namespace Go.Proofs.YtefbfgcbbpmhlabGreatDoor
open Go.RowKit
set_option maxRecDepth 100000

theorem sepsL_take_le : ∀ (l : List V) (j : Nat), (sepsL (l.take j)).length ≤ (sepsL l).length
  | [], j => by simp
  | y :: l, 0 => by simp [sepsL]
  | y :: l, j + 1 => by have := sepsL_take_le l j; rw [List.take_succ_cons, sepsL, sepsL]; simp; omega
theorem sepsF_take_le : ∀ (l : List (ByteArray × V)) (j : Nat), (sepsF (l.take j)).length ≤ (sepsF l).length
  | [], j => by simp
  | y :: l, 0 => by simp [sepsF]
  | y :: l, j + 1 => by have := sepsF_take_le l j; rw [List.take_succ_cons, sepsF, sepsF]; simp; omega
theorem sepsL_take_len (v : V) (j : Nat) : (sepsL (v.l.take j)).length ≤ 50 * v.bulk := by
  have a := sepsL_take_le v.l j
  have b := sepsL_len v.l (fun x _ => txt_len x)
  rw [bulk_eq']; omega
theorem sepsF_take_len (v : V) (j : Nat) : (sepsF (v.f.take j)).length ≤ 50 * v.bulk := by
  have a := sepsF_take_le v.f j
  have b := sepsF_len v.f (fun x _ => txt_len x.2)
  rw [bulk_eq']; omega

set_option maxHeartbeats 2000000 in
theorem valueText_list (d : Nat)
    (ih : ∀ (v : V) (cs : List Value) (w : World), RepN d w v cs → v.Shp → v.bulk ≤ 150000 → Calls Tryz.prog 87 #[.agg cs.toArray] w fun e w' => e = .returned (.string ⟨v.txt.toArray⟩) ∧ Below w.heap.size w w')
    (v : V) (al af : Option Addr) (cl cf : Nat) (w : World) (hbk : v.bulk ≤ 150000)
    (hl : v.l.length ≤ maxLen) (hL : ∀ i x, v.l[i]? = some x → ∃ b off c, al = some ⟨b, off, none⟩ ∧ b < w.heap.size ∧ CellsAt w b (off + i * 5) c ∧ RepN d w x c)
    (hSH : ∀ (i : Nat) (x : V), v.l[i]? = some x → x.Shp) (htx : v.txt = 91 :: (sepsL v.l).drop 1 ++ [93]) :
    Calls Tryz.prog 87 #[.agg #[.int .i64 5, .int .i64 v.n, .string v.s, .slice al v.l.length cl, .slice af v.f.length cf]] w fun e w' => e = .returned (.string ⟨v.txt.toArray⟩) ∧ Below w.heap.size w w' := by
  unfold maxLen at hl
  have HL := hid hL
  have HSH := hid hSH
  have HTX5 := hid htx
  have HBE := hid (bulk_eq' v)
  clear hL hSH htx
  go_enter Tryz.func87, Tryz.ntmps87
  have HSL := hid (fun j => show (sepsL (v.l.take j)).length ≤ 50 * v.bulk from sepsL_take_len v j)
  go_wp2_with fail
  go_loopw [3, 4] (fun t i wr => ∃ j : Nat, i = .int .i64 j ∧ j ≤ v.l.length ∧ t = .string ⟨(91 :: (sepsL (v.l.take j)).drop 1).toArray⟩ ∧ At wr w.heap.size 26 #[.int .i64 5, .int .i64 v.n, .string v.s, .slice al v.l.length cl, .slice af v.f.length cf] ∧ Below w.heap.size w wr) (fun _ i _ => v.l.length - (intOf i).toNat)
  case atStart => exact ⟨0, rfl, Nat.zero_le _, by simp [sepsL], At.new _ _ _ rfl, by go_grown⟩
  case round =>
    obtain ⟨j, rfl, hj, rfl, hA, hB⟩ := hrel
    have mc := hA.cell
    have mz := hA.lt
    have hln := HSL.out j
    have DS := hid (fun (x : V) (h : v.l[j]? = some x) => drop_seps h)
    have HP0 := hid (fun (h : j = 0) => show (sepsL (v.l.take j)).drop 1 = [] by rw [h]; simp [sepsL])
    have HP5 := hid (fun (h : v.l.take j = v.l) => show 91 :: (sepsL (v.l.take j)).drop 1 ++ [93] = v.txt by rw [h, HTX5.out])
    generalize hpre : (sepsL (v.l.take j)).drop 1 = pre at *
    have hpl : pre.length ≤ 50 * v.bulk := by rw [← hpre]; simp; omega
    clear hpre hln
    by_cases hjl : j < v.l.length
    · have hjl' : (j : Int) < v.l.length := by omega
      obtain ⟨b, off, c, rfl, hbl, hc, hr⟩ := HL.out j v.l[j] (List.getElem?_eq_getElem hjl)
      have hr' := hr.later (hB : Below w.heap.size w wr)
      have hbr : b < wr.heap.size := Nat.lt_of_lt_of_le hbl hB.size
      obtain ⟨k1, n1, s1, a1, l1, c1, a2, l2, c2, rfl, g0, g1, g2, g3, g4⟩ := rep_cells hr' (hc.later hbl hB)
      have HR := hid hr'
      clear hr hr' hc
      have hbx : v.l[j].bulk ≤ v.bulk := by have := bulkL_mem v.l v.l[j] (List.getElem_mem hjl); have := HBE.out; omega
      have HX := hid (And.intro (HSH.out j v.l[j] (List.getElem?_eq_getElem hjl)) (show v.l[j].bulk ≤ 150000 by omega))
      have hxl := txt_len v.l[j]
      have HDS := hid (DS.out v.l[j] (List.getElem?_eq_getElem hjl))
      clear DS HP5
      generalize htx : v.l[j].txt = tx at *
      have HT := hid htx
      clear htx
      by_cases hj0 : j = 0
      · have ha := add_huge (x := 91 :: pre) (y := tx) (z := 91 :: (pre ++ tx)) (by simp; omega) (by omega) (by simp)
        have hj0' : ¬ (0 : Int) < j := by omega
        have hp0 := hid hj0
        clear hj0
        go_wp2_with (go_at_call 87; refine (ih v.l[j] _ _ HR.out HX.out.1 HX.out.2).mono ?_; rw [HT.out]; rintro e w1 ⟨rfl, hb1⟩)
        go_roundw
        case rel =>
          refine ⟨j + 1, by go_num, by omega, ?_, hA.later hb1, hB.trans (hb1.mono hB.size)⟩
          rw [HDS.out, if_pos hp0.out]
          have := HP0.out hp0.out
          rw [this]; rfl
        case measure => simp [intOf]; omega
      · have hj0' : (0 : Int) < j := by omega
        have ha1 := add_huge (x := 91 :: pre) (y := [32]) (z := 91 :: (pre ++ [32])) (by simp; omega) (by simp) (by simp)
        have ha := add_huge (x := 91 :: (pre ++ [32])) (y := tx) (z := 91 :: (pre ++ 32 :: tx)) (by simp; omega) (by omega) (by simp)
        go_wp2_with (go_at_call 87; refine (ih v.l[j] _ _ HR.out HX.out.1 HX.out.2).mono ?_; rw [HT.out]; rintro e w1 ⟨rfl, hb1⟩)
        go_roundw
        case rel =>
          refine ⟨j + 1, by go_num, by omega, ?_, hA.later hb1, hB.trans (hb1.mono hB.size)⟩
          rw [HDS.out, if_neg hj0]
        case measure => simp [intOf]; omega
    · have hjl' : ¬ (j : Int) < v.l.length := by omega
      have ha := add_huge (x := 91 :: pre) (y := [93]) (z := 91 :: pre ++ [93]) (by simp; omega) (by simp) (by simp)
      go_wp2_with fail
      go_ret
      exact ⟨ret_str (by rw [← HP5.out (by rw [List.take_of_length_le (by omega)])]; rfl), hB⟩
set_option maxHeartbeats 2000000 in
theorem valueText_dict (d : Nat)
    (ih : ∀ (v : V) (cs : List Value) (w : World), RepN d w v cs → v.Shp → v.bulk ≤ 150000 → Calls Tryz.prog 87 #[.agg cs.toArray] w fun e w' => e = .returned (.string ⟨v.txt.toArray⟩) ∧ Below w.heap.size w w')
    (v : V) (al af : Option Addr) (cl cf : Nat) (w : World) (hbk : v.bulk ≤ 150000)
    (hf : v.f.length ≤ maxLen) (hF : ∀ i q, v.f[i]? = some q → ∃ b off c, af = some ⟨b, off, none⟩ ∧ b < w.heap.size ∧ q.1.size ≤ maxLen ∧ w.cell? ⟨b, off + i * 6, none⟩ = some (.string q.1) ∧ CellsAt w b (off + i * 6 + 1) c ∧ RepN d w q.2 c)
    (hSH : ∀ (i : Nat) (q : ByteArray × V), v.f[i]? = some q → q.2.Shp) (hN : Names v.f) (htx : v.txt = 60 :: 60 :: sepsF v.f ++ [32, 62, 62]) :
    Calls Tryz.prog 87 #[.agg #[.int .i64 6, .int .i64 v.n, .string v.s, .slice al v.l.length cl, .slice af v.f.length cf]] w fun e w' => e = .returned (.string ⟨v.txt.toArray⟩) ∧ Below w.heap.size w w' := by
  unfold maxLen at hf
  have HF := hid hF
  have HSH := hid hSH
  have HN := hid hN
  have HTX6 := hid htx
  have HBE := hid (bulk_eq' v)
  clear hF hSH htx hN
  go_enter Tryz.func87, Tryz.ntmps87
  have HSL := hid (fun j => show (sepsF (v.f.take j)).length ≤ 50 * v.bulk from sepsF_take_len v j)
  go_wp2_with fail
  go_loopw [5, 6] (fun t i wr => ∃ j : Nat, i = .int .i64 j ∧ j ≤ v.f.length ∧ t = .string ⟨(60 :: 60 :: sepsF (v.f.take j)).toArray⟩ ∧ At wr w.heap.size 26 #[.int .i64 6, .int .i64 v.n, .string v.s, .slice al v.l.length cl, .slice af v.f.length cf] ∧ Below w.heap.size w wr) (fun _ i _ => v.f.length - (intOf i).toNat)
  case atStart => exact ⟨0, rfl, Nat.zero_le _, by simp [sepsF], At.new _ _ _ rfl, by go_grown⟩
  case round =>
    obtain ⟨j, rfl, hj, rfl, hA, hB⟩ := hrel
    have mc := hA.cell
    have mz := hA.lt
    have hln := HSL.out j
    have HP6 := hid (fun (h : v.f.take j = v.f) => show 60 :: 60 :: sepsF (v.f.take j) ++ [32, 62, 62] = v.txt by rw [h, HTX6.out])
    have DS := hid (fun (q : ByteArray × V) (h : v.f[j]? = some q) => sepsF_take v.f j q h)
    generalize hpre : sepsF (v.f.take j) = pre at *
    clear hpre
    by_cases hjl : j < v.f.length
    · have hjl' : (j : Int) < v.f.length := by omega
      obtain ⟨b, off, c, rfl, hbl, hnl, hcn, hc, hr⟩ := HF.out j v.f[j] (List.getElem?_eq_getElem hjl)
      have hr' := hr.later (hB : Below w.heap.size w wr)
      have hbr : b < wr.heap.size := Nat.lt_of_lt_of_le hbl hB.size
      obtain ⟨k1, n1, s1, a1, l1, c1, a2, l2, c2, rfl, g0, g1, g2, g3, g4⟩ := rep_cells hr' (hc.later hbl hB)
      have gn := (hB.cell (p := ⟨b, off + j * 6, none⟩) hbl).trans hcn
      have HR := hid hr'
      clear hr hr' hc hcn hnl
      have hbx := bulkF_mem v.f v.f[j] (List.getElem_mem hjl)
      have hbv : 1 + v.f[j].1.size + v.f[j].2.bulk ≤ v.bulk := by have := HBE.out; omega
      have HX := hid (And.intro (HSH.out j v.f[j] (List.getElem?_eq_getElem hjl)) (show v.f[j].2.bulk ≤ 150000 by omega))
      have hxl := txt_len v.f[j].2
      have hnt := nameT_len v.f[j].1
      have HDS := hid (DS.out v.f[j] (List.getElem?_eq_getElem hjl))
      have HNM := hid (show v.f[j].1.size ≤ 100000 by have := nmOk_sizeV (HN.out j v.f[j] (List.getElem?_eq_getElem hjl)).1; omega)
      clear DS HP6 hbx
      rw [fieldT_eq] at HDS
      generalize htx : v.f[j].2.txt = tx at *
      have HT := hid htx
      clear htx
      generalize hnx : nameT v.f[j].1.data.toList = nt at *
      have HNT := hid hnx
      clear hnx
      have ha1 := add_huge (x := 60 :: 60 :: pre) (y := [32]) (z := 60 :: 60 :: (pre ++ [32])) (by simp; omega) (by simp) (by simp)
      have ha2 := add_huge (x := 60 :: 60 :: (pre ++ [32])) (y := nt) (z := 60 :: 60 :: (pre ++ 32 :: nt)) (by simp; omega) (by omega) (by simp)
      have ha3 := add_huge (x := 60 :: 60 :: (pre ++ 32 :: nt)) (y := [32]) (z := 60 :: 60 :: (pre ++ 32 :: (nt ++ [32]))) (by simp; omega) (by simp) (by simp)
      have ha4 := add_huge (x := 60 :: 60 :: (pre ++ 32 :: (nt ++ [32]))) (y := tx) (z := 60 :: 60 :: (pre ++ 32 :: (nt ++ 32 :: tx))) (by simp; omega) (by omega) (by simp)
      go_upto_block 4 with fail
      go_cut [5] from 54 to 79 (fun t wx => t = .string ⟨(60 :: 60 :: (pre ++ 32 :: (nt ++ 32 :: tx))).toArray⟩ ∧ Below wr.heap.size wr wx)
      case first =>
        go_wp2_with fail
        go_region_with (first
          | (go_at_call 87; refine (ih v.f[j].2 _ _ (HR.out.later (by first | exact below_undrew (by assumption) | go_grown)) HX.out.1 HX.out.2).mono ?_; rw [HT.out]; rintro e w1 ⟨rfl, hb1⟩; have x1 := fun o => hb1.cell (p := ⟨b, o, none⟩) (Nat.lt_of_lt_of_le hbr (by first | exact Nat.le_refl _ | exact (below_undrew (by assumption)).size)); have x2 := fun o => hb1.cell (p := ⟨w.heap.size, o, none⟩) (Nat.lt_of_lt_of_le mz (by first | exact Nat.le_refl _ | exact (below_undrew (by assumption)).size)))
          | (go_at_call 138; refine (nameText_says v.f[j].1 _ HNM.out).mono ?_; rw [HNT.out]; rintro e w2 ⟨rfl, hb2⟩; have x3 := fun o => hb2.cell (p := ⟨b, o, none⟩) (Nat.lt_of_lt_of_le hbr (by first | exact Nat.le_refl _ | exact (below_undrew (by assumption)).size)); have x4 := fun o => hb2.cell (p := ⟨w.heap.size, o, none⟩) (Nat.lt_of_lt_of_le mz (by first | exact Nat.le_refl _ | exact (below_undrew (by assumption)).size))))
        all_goals go_wp2_with fail
        all_goals go_meet
        all_goals exact ⟨rfl, by first | exact (below_undrew (by assumption)).trans ((‹Below _ _ _›).mono (below_undrew (by assumption)).size)⟩
      case rest =>
        obtain ⟨rfl, hb1⟩ := hcut
        go_wp2_with fail
        go_roundw
        case rel =>
          refine ⟨j + 1, by go_num, by omega, ?_, hA.later hb1, hB.trans (hb1.mono hB.size)⟩
          rw [HDS.out]
        case measure => simp [intOf]; omega
    · have hjl' : ¬ (j : Int) < v.f.length := by omega
      have ha := add_huge (x := 60 :: 60 :: pre) (y := [32, 62, 62]) (z := 60 :: 60 :: pre ++ [32, 62, 62]) (by simp; omega) (by simp) (by simp)
      go_wp2_with fail
      go_ret
      exact ⟨ret_str (by rw [← HP6.out (by rw [List.take_of_length_le (by omega)])]; rfl), hB⟩
set_option maxHeartbeats 2000000 in
theorem valueText_step (d : Nat)
    (ih : ∀ (v : V) (cs : List Value) (w : World), RepN d w v cs → v.Shp → v.bulk ≤ 150000 → Calls Tryz.prog 87 #[.agg cs.toArray] w fun e w' => e = .returned (.string ⟨v.txt.toArray⟩) ∧ Below w.heap.size w w')
    (v : V) (cs : List Value) (w : World) (hv : RepN (d + 1) w v cs) (hsh : v.Shp) (hbk : v.bulk ≤ 150000) :
    Calls Tryz.prog 87 #[.agg cs.toArray] w fun e w' => e = .returned (.string ⟨v.txt.toArray⟩) ∧ Below w.heap.size w w' := by
  obtain ⟨al, af, cl, cf, rfl, ⟨hs, hl, hf⟩, hL, hF⟩ := hv
  unfold maxLen at hs hl hf
  have ho := (shp_eq v).1 hsh
  have hbe := bulk_eq' v
  have HTX := hid (txt_eq v)
  have HTL := hid (txt_len v)
  have HO := hid ho
  have hs200 := own_s ho.1
  have HL := hid hL
  have HF := hid hF
  have HSH := hid (And.intro ((shpL_iff v.l).1 ho.2.1) ((shpF_iff v.f).1 ho.2.2))
  have HBE := hid hbe
  clear hL hF hsh hbe ho
  by_cases hk1 : v.k = 1
  · go_enter Tryz.func87, Tryz.ntmps87
    by_cases hn1 : v.n = 1
    all_goals
      go_wp2_with fail
      go_ret
      exact ⟨ret_str (by rw [HTX.out]; simp [hk1, hn1]), by go_grown⟩
  by_cases hk2 : v.k = 2
  · go_enter Tryz.func87, Tryz.ntmps87
    have hok : okF v.n = true := ((own2 hk2).1 HO.out.1).1
    have HOK := hid hok
    clear hok
    go_wp2_with (go_at_call 136; refine (fixText_any v.n _ HOK.out).mono ?_; rintro e w1 ⟨rfl, hb1⟩)
    go_ret
    exact ⟨ret_str (by rw [HTX.out]; simp [hk2, txtB_ok HOK.out]), Below.trans (by go_grown) (hb1.mono (by simp))⟩
  by_cases hk3 : v.k = 3
  · go_enter Tryz.func87, Tryz.ntmps87
    go_wp2_with (go_at_call 137; refine (strText_says v.s _ (by omega)).mono ?_; rintro e w1 ⟨rfl, hb1⟩)
    go_ret
    exact ⟨ret_str (by rw [HTX.out]; simp [hk3]), Below.trans (by go_grown) (hb1.mono (by simp))⟩
  by_cases hk4 : v.k = 4
  · go_enter Tryz.func87, Tryz.ntmps87
    go_wp2_with (go_at_call 138; refine (nameText_says v.s _ (by omega)).mono ?_; rintro e w1 ⟨rfl, hb1⟩)
    go_ret
    exact ⟨ret_str (by rw [HTX.out]; simp [hk4]), Below.trans (by go_grown) (hb1.mono (by simp))⟩
  by_cases hk5 : v.k = 5
  · have HTX5 := hid (show v.txt = 91 :: (sepsL v.l).drop 1 ++ [93] by rw [HTX.out]; simp [hk5])
    rw [hk5]
    exact valueText_list d ih v al af cl cf w hbk (by unfold maxLen; exact hl) HL.out HSH.out.1 HTX5.out
  by_cases hk6 : v.k = 6
  · have HTX6 := hid (show v.txt = 60 :: 60 :: sepsF v.f ++ [32, 62, 62] by rw [HTX.out]; simp [hk6])
    rw [hk6]
    exact valueText_dict d ih v al af cl cf w hbk (by unfold maxLen; exact hf) HF.out HSH.out.2 (own_names HO.out.1) HTX6.out
  by_cases hk7 : v.k = 7
  · go_enter Tryz.func87, Tryz.ntmps87
    have hn := (own7 hk7).1 HO.out.1
    obtain ⟨n, hn0⟩ : ∃ n : Nat, v.n = n := ⟨v.n.toNat, by omega⟩
    have hn60 : n ≤ 60 := by omega
    have hn0' := hn0
    have hl2 := dec_small n (by omega)
    have ha := add_huge (x := Lib.decDigits n) (y := [32, 48, 32, 82]) (z := Lib.decDigits n ++ [32, 48, 32, 82]) (by omega) (by simp) rfl
    have HTX7 := hid (show v.txt = Lib.decDigits n ++ [32, 48, 32, 82] by rw [HTX.out]; simp [hk7, hn0]; rw [Nat.mod_eq_of_lt (by omega)])
    clear hn hl2
    go_wp2_with (go_at_call 101; refine (decimal_any n _ (by omega)).mono ?_; rintro e w1 ⟨rfl, hb1⟩)
    go_ret
    exact ⟨ret_str (by rw [HTX7.out]), Below.trans (by go_grown) (hb1.mono (by simp))⟩
  go_enter Tryz.func87, Tryz.ntmps87
  go_wp2_with fail
  go_ret
  exact ⟨ret_str (by rw [HTX.out]; simp [hk1, hk2, hk3, hk4, hk5, hk6, hk7]), by go_grown⟩
theorem valueText_says (d : Nat) : ∀ (v : V) (cs : List Value) (w : World), RepN d w v cs → v.Shp → v.bulk ≤ 150000 → Calls Tryz.prog 87 #[.agg cs.toArray] w fun e w' => e = .returned (.string ⟨v.txt.toArray⟩) ∧ Below w.heap.size w w' := by
  induction d with
  | zero => intro v cs w h; exact h.elim
  | succ d ih => exact fun v cs w h => valueText_step d ih v cs w h
end Go.Proofs.YtefbfgcbbpmhlabGreatDoor

/-
  The program's own text of a value: lists.
-/
namespace Go.Proofs.YtefbfgcbbpmhlabGreatDoor
open Go.RowKit
set_option maxRecDepth 100000

theorem bulkL_take : ∀ (l : List V) (j : Nat) (x : V), l[j]? = some x → bulkL (l.take j) + x.bulk ≤ bulkL l
  | [], j, x, h => by simp at h
  | y :: l, 0, x, h => by simp at h; subst h; simp [bulkL]
  | y :: l, j + 1, x, h => by
    have := bulkL_take l j x (by simpa using h)
    rw [List.take_succ_cons, bulkL, bulkL]; omega
theorem bulkF_take : ∀ (l : List (ByteArray × V)) (j : Nat) (q : ByteArray × V), l[j]? = some q → bulkF (l.take j) + (1 + q.1.size + q.2.bulk) ≤ bulkF l
  | [], j, x, h => by simp at h
  | y :: l, 0, x, h => by
    have e : bulkF (List.take 0 (y :: l)) = 0 := by simp [bulkF]
    simp at h; subst h; rw [e, bulkF_cons]; omega
  | y :: l, j + 1, x, h => by
    have := bulkF_take l j x (by simpa using h)
    rw [List.take_succ_cons, bulkF_cons, bulkF_cons]; omega
theorem tabB {m : Int} {w0 w : World} {B : Nat} (hr : Rdy m w0) (hb : Below w0.heap.size w0 w) (hB : w0.heap.size ≤ B) : Lib.TabBelow Tryz.prog B w "internal/strconv.uint64pow10" .u64 Lib.pow10Tab :=
  fun _ h => (hr.below (hb.trans (h.mono hB))).1

set_option maxHeartbeats 400000 in
theorem appendBool1 (b : Bool) (B : Nat) (sv : Value) (xs : List UInt8) (w : World) (hown : Own8 w B sv xs) (hB : B ≤ w.heap.size) (hlim : xs.length ≤ 100000000) :
    Calls Tryz.prog 283 #[sv, .bool b] w fun e w' => ∃ v', e = .returned v' ∧ Own8 w' B v' (xs ++ (if b then [116, 114, 117, 101] else [102, 97, 108, 115, 101])) ∧ Kept8 B w w' := by
  cases b
  · go_enter Tryz.func283, Tryz.ntmps283
    go_wp2_with (at_builtin; refine wpApp8s rfl (.tmp 8) _ rfl B _ xs rfl hown _ rfl [102, 97, 108, 115, 101] rfl (by simp [ByteArray.size]; omega) hB ?_)
    intro v1 w1 hown1 hk1
    go_wp2
    go_ret
    exact ⟨_, rfl, hown1, hk1⟩
  · go_enter Tryz.func283, Tryz.ntmps283
    go_wp2_with (at_builtin; refine wpApp8s rfl (.tmp 6) _ rfl B _ xs rfl hown _ rfl [116, 114, 117, 101] rfl (by simp [ByteArray.size]; omega) hB ?_)
    intro v1 w1 hown1 hk1
    go_wp2
    go_ret
    exact ⟨_, rfl, hown1, hk1⟩
set_option maxHeartbeats 400000 in
theorem appendBool (b : Bool) (B : Nat) (sv : Value) (xs : List UInt8) (w : World) (hown : Own8 w B sv xs) (hB : B ≤ w.heap.size) (hlim : xs.length ≤ 100000000) :
    Calls Tryz.prog 212 #[sv, .bool b] w fun e w' => ∃ v', e = .returned v' ∧ Own8 w' B v' (xs ++ (if b then [116, 114, 117, 101] else [102, 97, 108, 115, 101])) ∧ Kept8 B w w' := by
  have H := hid (appendBool1 b B sv xs w hown hB hlim)
  cases b
  all_goals
    go_enter Tryz.func212, Tryz.ntmps212
    go_wp2_with (go_at_call 283; refine H.out.mono ?_; rintro e w1 ⟨v1, rfl, h1, h2⟩)
    go_ret
    exact ⟨_, rfl, h1, h2⟩

/-- A value's text, behind what was there. -/
def TextOk (w0 : World) (d : Nat) : Prop :=
  ∀ (v : V) (cs : List Value) (w : World) (B : Nat) (sv : Value) (xs : List UInt8), RepN d w0 v cs → v.Shp → Below w0.heap.size w0 w → w0.heap.size ≤ B → B ≤ w.heap.size → Own8 w B sv xs → xs.length + 50 * v.bulk ≤ 100000000 →
    Calls Tryz.prog 148 #[sv, .agg cs.toArray] w fun e w' => ∃ v', e = .returned v' ∧ Own8 w' B v' (xs ++ v.txt) ∧ Kept8 B w w'

set_option maxHeartbeats 1000000 in
theorem addList_says {w0 : World} {d : Nat} (ih : TextOk w0 d) (l : List V) (al : Option Addr) (cl : Nat) (w : World) (B : Nat) (sv : Value) (xs : List UInt8) (hl : l.length ≤ maxLen)
    (hL : ∀ (i : Nat) (x : V), l[i]? = some x → ∃ b off c, al = some ⟨b, off, none⟩ ∧ b < w0.heap.size ∧ CellsAt w0 b (off + i * 5) c ∧ RepN d w0 x c) (hSH : ∀ (i : Nat) (x : V), l[i]? = some x → x.Shp)
    (hb0 : Below w0.heap.size w0 w) (hB0 : w0.heap.size ≤ B) (hB : B ≤ w.heap.size) (hown : Own8 w B sv xs) (hlim : xs.length + 50 * bulkL l + 50 ≤ 100000000) :
    Calls Tryz.prog 216 #[sv, .slice al l.length cl] w fun e w' => ∃ v', e = .returned v' ∧ Own8 w' B v' (xs ++ (91 :: (sepsL l).drop 1 ++ [93])) ∧ Kept8 B w w' := by
  unfold maxLen at hl
  have HL := hid hL
  have HSH := hid hSH
  have HB0 := hid hb0
  clear hL hSH hb0
  go_enter Tryz.func216, Tryz.ntmps216
  go_wp2_with (at_builtin; refine wpApp8 rfl (.tmp 7) (.tmp 8) rfl B _ xs rfl hown _ [91] 1 1 rfl rfl rfl (by omega) hB ?_)
  intro v1 w1 hown1 hk1
  go_wp2_with fail
  go_loopw [0, 12] (fun t i wr => ∃ j : Nat, i = .int .i64 j ∧ j ≤ l.length ∧ Own8 wr B t (xs ++ 91 :: (sepsL (l.take j)).drop 1) ∧ Kept8 B w wr) (fun _ i _ => l.length - (intOf i).toNat)
  case atStart => exact ⟨0, rfl, Nat.zero_le _, by simpa [sepsL] using hown1, hk1⟩
  case round =>
    clear hown1 hk1 hown
    obtain ⟨j, rfl, hj, hown, hb⟩ := hrel
    have hbs := hb.size
    have hpl : ((sepsL (l.take j)).drop 1).length ≤ 50 * bulkL (l.take j) := by
      have := sepsL_len (l.take j) (fun x _ => txt_len x)
      simp; omega
    have DS := hid (fun (x : V) (h : l[j]? = some x) => drop_seps h)
    have HP0 := hid (fun (h : j = 0) => show (sepsL (l.take j)).drop 1 = [] by rw [h]; simp [sepsL])
    have HP5 := hid (fun (h : l.take j = l) => show (sepsL (l.take j)).drop 1 = (sepsL l).drop 1 by rw [h])
    by_cases hjl : j < l.length
    · have hjl' : (j : Int) < l.length := by omega
      have hbt := bulkL_take l j l[j] (List.getElem?_eq_getElem hjl)
      have hr0 := HB0.out.trans (hb.below.mono hB0)
      obtain ⟨b, off, c, rfl, hbl, hc, hr⟩ := HL.out j l[j] (List.getElem?_eq_getElem hjl)
      obtain ⟨k1, n1, s1, a1, l1, c1, a2, l2, c2, rfl, g0, g1, g2, g3, g4⟩ := rep_cells (hr.later hr0) (hc.later hbl hr0)
      have hbr : b < wr.heap.size := Nat.lt_of_lt_of_le hbl hr0.size
      have HR := hid hr
      have HR0 := hid hr0
      have HX := hid (HSH.out j l[j] (List.getElem?_eq_getElem hjl))
      have HDS := hid (DS.out l[j] (List.getElem?_eq_getElem hjl))
      clear hr hc DS HP5 hr0
      generalize hpre : (sepsL (l.take j)).drop 1 = pre at *
      clear hpre
      by_cases hj0 : j = 0
      · have hj0' : ¬ (0 : Int) < j := by omega
        have hp0 := hid hj0
        have hpn := HP0.out hj0
        clear hj0
        go_wp2_with (go_at_call 148; refine (ih l[j] _ _ B _ _ HR.out HX.out (HR0.out.trans ((Below.refl _ _).alloc HR0.out.size _)) hB0 (by simp; omega) (hown.alloc _) (by simp; omega)).mono ?_; rintro e w2 ⟨v2, rfl, hown2, hk2⟩)
        go_roundw
        case rel =>
          refine ⟨j + 1, by go_num, by omega, ?_, hb.trans (((Kept8.refl _ _).alloc (by omega) _).trans hk2)⟩
          rw [HDS.out, if_pos hp0.out]
          rw [hpn] at hown2
          simpa using hown2
        case measure => simp [intOf]; omega
      · have hj0' : (0 : Int) < j := by omega
        go_wp2_with (at_builtin; refine wpApp8g rfl (.tmp 19) (.tmp 20) rfl B _ _ rfl ((hown.alloc _).alloc _) (wr.heap.size + 1) [32] 1 1 rfl (0, 0) rfl _ rfl (alloc2_new _ _ _) (by simp; omega) (by simp; omega) ?_)
        intro v2 w2 hown2 hk2
        replace hk2 := hk2.unalloc.kept (hown.alloc _) (by simp; omega)
        have hA := hk2.at (by decide) (At.new wr _ _ rfl)
        have mc := hA.cell
        have mz := hA.lt
        have HA2 := hid (hb.trans (((Kept8.refl _ _).alloc (by omega) _).trans hk2))
        clear hk2
        go_wp2_with (go_at_call 148; refine (ih l[j] _ _ B _ _ HR.out HX.out (HB0.out.trans (HA2.out.below.mono hB0)) hB0 (by have := HA2.out.size; omega) hown2 (by simp; omega)).mono ?_; rintro e w3 ⟨v3, rfl, hown3, hk3⟩)
        go_roundw
        case rel =>
          refine ⟨j + 1, by go_num, by omega, ?_, HA2.out.trans hk3⟩
          rw [HDS.out, if_neg hj0]
          simpa using hown3
        case measure => simp [intOf]; omega
    · have hjl' : ¬ (j : Int) < l.length := by omega
      have hpe := HP5.out (by rw [List.take_of_length_le (by omega)])
      have hbt : bulkL (l.take j) = bulkL l := by rw [List.take_of_length_le (by omega)]
      go_wp2_with (at_builtin; refine wpApp8 rfl (.tmp 26) (.tmp 27) rfl B _ _ rfl hown _ [93] 1 1 rfl rfl rfl (by simp at *; omega) (by omega) ?_)
      intro v2 w2 hown2 hk2
      go_wp2
      go_ret
      refine ⟨_, rfl, ?_, hb.trans hk2⟩
      simpa using hown2
end Go.Proofs.YtefbfgcbbpmhlabGreatDoor

/-
  The program's own text of a value: dictionaries.
-/
namespace Go.Proofs.YtefbfgcbbpmhlabGreatDoor
open Go.RowKit
set_option maxRecDepth 100000
attribute [local go_sem ↓] Go.wp_at_zero Go.wp_at_succ

set_option maxHeartbeats 2000000 in
theorem addDict_says {w0 : World} {d : Nat} (ih : TextOk w0 d) (l : List (ByteArray × V)) (al : Option Addr) (cl : Nat) (w : World) (B : Nat) (sv : Value) (xs : List UInt8) (hl : l.length ≤ maxLen)
    (hL : ∀ (i : Nat) (q : ByteArray × V), l[i]? = some q → ∃ b off c, al = some ⟨b, off, none⟩ ∧ b < w0.heap.size ∧ q.1.size ≤ maxLen ∧ w0.cell? ⟨b, off + i * 6, none⟩ = some (.string q.1) ∧ CellsAt w0 b (off + i * 6 + 1) c ∧ RepN d w0 q.2 c) (hSH : ∀ (i : Nat) (q : ByteArray × V), l[i]? = some q → q.1.size ≤ 100000 ∧ q.2.Shp)
    (hb0 : Below w0.heap.size w0 w) (hB0 : w0.heap.size ≤ B) (hB : B ≤ w.heap.size) (hown : Own8 w B sv xs) (hlim : xs.length + 50 * bulkF l + 50 ≤ 100000000) :
    Calls Tryz.prog 217 #[sv, .slice al l.length cl] w fun e w' => ∃ v', e = .returned v' ∧ Own8 w' B v' (xs ++ (60 :: 60 :: sepsF l ++ [32, 62, 62])) ∧ Kept8 B w w' := by
  unfold maxLen at hl
  have HL := hid hL
  have HSH := hid hSH
  have HB0 := hid hb0
  clear hL hSH hb0
  go_enter Tryz.func217, Tryz.ntmps217
  go_wp2_with (at_builtin; refine wpApp8s rfl (.tmp 7) _ rfl B _ xs rfl hown _ rfl [60, 60] rfl (by simp [ByteArray.size]; omega) hB ?_)
  intro v1 w1 hown1 hk1
  go_wp2_with fail
  go_loopw [0, 11] (fun t i wr => ∃ j : Nat, i = .int .i64 j ∧ j ≤ l.length ∧ Own8 wr B t (xs ++ 60 :: 60 :: sepsF (l.take j)) ∧ Kept8 B w wr) (fun _ i _ => l.length - (intOf i).toNat)
  case atStart => exact ⟨0, rfl, Nat.zero_le _, by simpa [sepsF] using hown1, hk1⟩
  case round =>
    clear hown1 hk1 hown
    obtain ⟨j, rfl, hj, hown, hb⟩ := hrel
    have hbs := hb.size
    have hpl : (sepsF (l.take j)).length ≤ 50 * bulkF (l.take j) := sepsF_len (l.take j) (fun x _ => txt_len x.2)
    have DS := hid (fun (q : ByteArray × V) (h : l[j]? = some q) => sepsF_take l j q h)
    have HP5 := hid (fun (h : l.take j = l) => show sepsF (l.take j) = sepsF l by rw [h])
    by_cases hjl : j < l.length
    · have hjl' : (j : Int) < l.length := by omega
      have hbt := bulkF_take l j l[j] (List.getElem?_eq_getElem hjl)
      have hr0 := HB0.out.trans (hb.below.mono hB0)
      obtain ⟨b, off, c, rfl, hbl, hnl, hcn, hc, hr⟩ := HL.out j l[j] (List.getElem?_eq_getElem hjl)
      obtain ⟨k1, n1, s1, a1, l1, c1, a2, l2, c2, rfl, g0, g1, g2, g3, g4⟩ := rep_cells (hr.later hr0) (hc.later hbl hr0)
      have gn := (hr0.cell (p := ⟨b, off + j * 6, none⟩) hbl).trans hcn
      have hbr : b < wr.heap.size := Nat.lt_of_lt_of_le hbl hr0.size
      have HR := hid hr
      have HR0 := hid hr0
      have HX := hid (HSH.out j l[j] (List.getElem?_eq_getElem hjl))
      have HDS := hid (DS.out l[j] (List.getElem?_eq_getElem hjl))
      have hnt := nameT_len l[j].1
      clear hr hc DS HP5 hr0 hcn hnl
      rw [fieldT_eq] at HDS
      generalize hpre : sepsF (l.take j) = pre at *
      clear hpre
      generalize hnx : nameT l[j].1.data.toList = nt at *
      have HNT := hid hnx
      clear hnx
      go_upto_region 5 with fail
      have hownq := hown.alloc (.cells #[.string l[j].1, .int .i64 k1, .int .i64 n1, .string s1, .slice a1 l1 c1, .slice a2 l2 c2] 91)
      have hAq := At.new wr #[.string l[j].1, .int .i64 k1, .int .i64 n1, .string s1, .slice a1 l1 c1, .slice a2 l2 c2] 91 rfl
      have HKq := hid (hb.alloc (by omega) (.cells #[.string l[j].1, .int .i64 k1, .int .i64 n1, .string s1, .slice a1 l1 c1, .slice a2 l2 c2] 91))
      generalize wr.alloc (.cells #[.string l[j].1, .int .i64 k1, .int .i64 n1, .string s1, .slice a1 l1 c1, .slice a2 l2 c2] 91) = wq at *
      generalize wr.heap.size = bq at *
      have mcq := hAq.cell 0
      have mzq := hAq.lt
      have hBq : B ≤ wq.heap.size := by have := HKq.out.size; omega
      simp at mcq
      clear hown hb
      go_cut [0] from 15 to 22 (fun t wx => Own8 wx B t (xs ++ 60 :: 60 :: (pre ++ 32 :: (nt ++ [32]))) ∧ Kept8 B wq wx)
      case first =>
        go_region_held3 (fun w' => w'.cell? ⟨bq, 0, none⟩ = some (.string l[j].1)) (first | go_keep | assumption)
          (first
            | (refine stepApp8g (by rfl) (.tmp 15) (.tmp 16) (by rfl) B _ (xs ++ 60 :: 60 :: pre) (by rfl) (by first | exact hownq.alloc _ | exact (hownq.alloc _).alloc _) _ [32] 1 1 (by rfl) (0, 0) (by rfl) _ (by rfl) (by first | exact heap_alloc_new _ _ | exact alloc2_new _ _ _ | exact alloc2_old _ _ _) (by simp; omega) (by simp; omega) ?_; intro v2 w2 hown2 hg2; have hk2 := hg2.kept (B := B) (by first | exact hownq.alloc _ | exact (hownq.alloc _).alloc _) (by simp; omega); have hA2 := Kept8.at (t := 91) (b := bq) hk2 (by decide) (by first | exact hAq.alloc _ | exact (hAq.alloc _).alloc _); have mc2 := hA2.cell 0; have mz2 := hA2.lt; have hs2 := hg2.size; have HG2 := hid hg2; have HK2 := hid (Kept8.trans (by first | exact ((Kept8.refl B wq).alloc hBq _).drew | exact (((Kept8.refl B wq).alloc hBq _).alloc (by simp; omega) _).drew) hk2); clear hg2 hk2 hA2; simp at mc2 hs2)
            | (refine stepApp8g (by rfl) (.tmp 20) (.tmp 21) (by rfl) B _ (xs ++ 60 :: 60 :: pre ++ [32] ++ nt) (by rfl) (by first | exact hown3 | exact hown3.alloc _) _ [32] 1 1 (by rfl) (0, 0) (by rfl) _ (by rfl) (by first | exact heap_alloc_new _ _ | exact (HG3.out.row (by exact heap_alloc_new _ _) (by exact hown2.apart (Nat.le_refl _))).1 | exact (HG3.out.row (HG2.out.row (by exact alloc2_new _ _ _) (by exact hownq.apart (by omega))).1 (HG2.out.row (by exact alloc2_new _ _ _) (by exact hownq.apart (by omega))).2).1 | exact (HG3.out.row (HG2.out.row (by exact alloc2_old _ _ _) (by exact hownq.apart (Nat.le_refl _))).1 (HG2.out.row (by exact alloc2_old _ _ _) (by exact hownq.apart (Nat.le_refl _))).2).1) (by simp; omega) (by first | (simp; omega) | omega) ?_; intro v4 w4 hown4 hg4; have HK4 := hid (hg4.kept (B := B) (by first | exact hown3 | exact hown3.alloc _) (by first | (simp; omega) | omega)); clear hg4; have mc4 : w4.cell? ⟨bq, 0, none⟩ = some (.string l[j].1) := (Kept8.at (t := 91) (b := bq) HK4.out (by decide) (by first | exact HA3.out | exact HA3.out.alloc _)).cell 0)
            | (go_at_call 215; refine (addName_says l[j].1 B _ (xs ++ 60 :: 60 :: pre ++ [32]) _ HX.out.1 (by first | exact hown2 | exact hown2.alloc _) (by first | omega | (simp; omega)) (by simp; omega)).mono ?_; rw [HNT.out]; rintro e w3 ⟨v3, rfl, hown3, hg3⟩; have hs3 := hg3.size; have HG3 := hid hg3; have HK3 := hid (hg3.kept (B := B) (by first | exact hown2 | exact hown2.alloc _) (by first | omega | (simp; omega))); have HA3 := hid (Kept8.at (t := 91) (b := bq) HK3.out (by decide) (by first | exact Kept8.at (t := 91) (b := bq) HK2.out (by decide) hAq | exact (Kept8.at (t := 91) (b := bq) HK2.out (by decide) hAq).alloc _)); have mc3 := HA3.out.cell 0; have mz3 := HA3.out.lt; simp at mc3 hs3; clear hg3))
        all_goals go_wp2_with fail
        all_goals go_meet
        all_goals refine ⟨by simpa using hown4, ?_⟩
        all_goals first
          | exact (HK2.out.trans HK3.out).trans HK4.out
          | exact ((HK2.out.drew).trans HK3.out).trans HK4.out
          | exact ((HK2.out.alloc (by omega) _).trans HK3.out).trans HK4.out
          | exact ((HK2.out.alloc (by omega) _).drew.trans HK3.out).trans HK4.out
          | exact ((HK2.out.trans HK3.out).alloc (by omega) _).trans HK4.out
          | exact ((HK2.out.drew.trans HK3.out).alloc (by omega) _).trans HK4.out
          | exact ((HK2.out.trans HK3.out).alloc (by omega) _).drew.trans HK4.out
          | exact ((HK2.out.drew.trans HK3.out).alloc (by omega) _).drew.trans HK4.out
      case rest =>
        obtain ⟨hown5, hk5⟩ := hcut
        have hA5 := Kept8.at (t := 91) (b := bq) hk5 (by decide) hAq
        have mc5 := hA5.cell
        have mz5 := hA5.lt
        have HK5 := hid (HKq.out.trans hk5)
        have hs5 : B ≤ wc.heap.size := by have := HK5.out.size; omega
        clear hk5 hownq mcq mzq hAq
        go_wp2_with (go_at_call 148; refine (ih l[j].2 _ _ B _ _ HR.out HX.out.2 (HB0.out.trans (HK5.out.below.mono hB0)) hB0 hs5 hown5 (by simp; omega)).mono ?_; rintro e w6 ⟨v6, rfl, hown6, hk6⟩)
        go_roundw
        case rel =>
          refine ⟨j + 1, by go_num, by omega, ?_, HK5.out.trans hk6⟩
          rw [HDS.out]
          simpa using hown6
        case measure => simp [intOf]; omega
    · have hjl' : ¬ (j : Int) < l.length := by omega
      have hbt : bulkF (l.take j) = bulkF l := by rw [List.take_of_length_le (by omega)]
      have HPE := hid (HP5.out (by rw [List.take_of_length_le (by omega)]))
      go_wp2_with (at_builtin; refine wpApp8s rfl (.tmp 28) _ rfl B _ _ rfl hown _ rfl [32, 62, 62] rfl (by simp only [List.length_append, List.length_cons, hbt] at *; simp [ByteArray.size]; omega) (by omega) ?_)
      intro v2 w2 hown2 hk2
      go_wp2
      go_ret
      refine ⟨_, rfl, ?_, hb.trans hk2⟩
      have := HPE.out
      simpa [this] using hown2
end Go.Proofs.YtefbfgcbbpmhlabGreatDoor
