/-
  Joined: Zq, Hv, Lw.
-/
import Derived.Test.YtflcibmjblioaaaGreatDoorKj
import Derived.Test.YtflcibmjblioaaaGreatDoorVe4
import Derived.Test.YtflcibmjblioaaaGreatDoorYc
import Derived.Test.YtflcibmjblioaaaGreatDoorLu

/-
  How heavy a value is: what LightValue says of one whose bulk is bounded.
-/
namespace Go.Proofs.YtflcibmjblioaaaGreatDoor
open Go.RowKit
set_option maxRecDepth 100000

theorem bulkL_le (l : List V) (j : Nat) : bulkL (l.take j) ≤ bulkL l := by
  induction l generalizing j with
  | nil => simp
  | cons x l ih => cases j with
    | zero => simp [bulkL]
    | succ j => have := ih j; rw [List.take_succ_cons, bulkL, bulkL]; omega
theorem bulkF_le (l : List (ByteArray × V)) (j : Nat) : bulkF (l.take j) ≤ bulkF l := by
  induction l generalizing j with
  | nil => simp
  | cons x l ih => cases j with
    | zero => simp [bulkF]
    | succ j => have := ih j; rw [List.take_succ_cons, bulkF_cons, bulkF_cons]; omega
theorem bulkL_step : ∀ (l : List V) (j : Nat) (h : j < l.length), bulkL (l.take (j + 1)) = bulkL (l.take j) + l[j].bulk
  | x :: l, 0, _ => by simp [bulkL]
  | x :: l, j + 1, h => by
    have := bulkL_step l j (by simpa using h)
    rw [List.take_succ_cons, List.take_succ_cons, bulkL, bulkL, this]; simp; omega
theorem bulkF_step : ∀ (l : List (ByteArray × V)) (j : Nat) (h : j < l.length), bulkF (l.take (j + 1)) = bulkF (l.take j) + 1 + l[j].1.size + l[j].2.bulk
  | x :: l, 0, _ => by
    rw [List.take_succ_cons, bulkF_cons]; simp [bulkF]
  | x :: l, j + 1, h => by
    have := bulkF_step l j (by simpa using h)
    rw [List.take_succ_cons, List.take_succ_cons, bulkF_cons, bulkF_cons, this]; simp; omega
theorem cntF_step : ∀ (l : List (ByteArray × V)) (j : Nat) (h : j < l.length), cntF (l.take (j + 1)) = cntF (l.take j) + l[j].2.cnt
  | x :: l, 0, _ => by
    rw [List.take_succ_cons, cntF_cons]; simp [cntF]
  | x :: l, j + 1, h => by
    have := cntF_step l j (by simpa using h)
    rw [List.take_succ_cons, List.take_succ_cons, cntF_cons, cntF_cons, this]; simp; omega
end Go.Proofs.YtflcibmjblioaaaGreatDoor

/-
  How heavy a value is (foliowrightlaw.weight): its bulk is less than twice that.
-/
namespace Go.Proofs.YtflcibmjblioaaaGreatDoor
open Go.RowKit
set_option maxRecDepth 100000

set_option maxHeartbeats 2000000 in
theorem weigh_step (d : Nat) (most : Int)
    (ih : ∀ (v : V) (cs : List Value) (w : World), RepN d w v cs → v.bulk ≤ 1048576 → Calls Tryz.prog 14 #[.agg cs.toArray, .int .i64 most] w fun e w' => (∃ z : Nat, e = .returned (.int .i64 (z : Int)) ∧ z ≤ v.bulk ∧ ((z : Int) ≤ most → v.bulk + 1 ≤ 2 * z)) ∧ Below w.heap.size w w')
    (v : V) (cs : List Value) (w : World) (hv : RepN (d + 1) w v cs) (hbk : v.bulk ≤ 1048576) :
    Calls Tryz.prog 14 #[.agg cs.toArray, .int .i64 most] w fun e w' => (∃ z : Nat, e = .returned (.int .i64 (z : Int)) ∧ z ≤ v.bulk ∧ ((z : Int) ≤ most → v.bulk + 1 ≤ 2 * z)) ∧ Below w.heap.size w w' := by
  obtain ⟨al, af, cl, cf, rfl, ⟨hs, hl, hf⟩, hL, hF⟩ := hv
  have hbe := bulk_eq' v
  have hce := cnt_eq v
  unfold maxLen at hs hl hf
  have HL := hid hL
  have HF := hid hF
  clear hL hF
  go_enter Tryz.func14, Tryz.ntmps14
  go_upto_block 0 with fail
  go_cut [5] from 12 to 32 (fun t wx => ∃ z : Nat, t = .int .i64 (z : Int) ∧ (z ≤ 1 + v.s.size + bulkL v.l ∧ ((z : Int) ≤ most → 1 + v.s.size + bulkL v.l + 1 ≤ 2 * z)) ∧ BoxV wx w.heap.size v al af cl cf ∧ Below w.heap.size w wx)
  case first =>
    go_wp2_with fail
    go_loopw [5, 6] (fun t i wr => ∃ (j z : Nat), i = .int .i64 j ∧ t = .int .i64 (z : Int) ∧ j ≤ v.l.length ∧ (z ≤ 1 + v.s.size + bulkL (v.l.take j) ∧ ((z : Int) ≤ most → 1 + v.s.size + bulkL (v.l.take j) + 1 ≤ 2 * z)) ∧ BoxV wr w.heap.size v al af cl cf ∧ Below w.heap.size w wr) (fun _ i _ => v.l.length - (intOf i).toNat)
    case atStart => exact ⟨0, 1 + v.s.size, rfl, by go_num, Nat.zero_le _, ⟨by omega, fun _ => by simp [bulkL]; omega⟩, At.new _ _ _ rfl, by go_grown⟩
    case round =>
      obtain ⟨j, z, rfl, rfl, hj, hzz, hA, hB⟩ := hrel
      have HZ := hid hzz
      have hzb : (z : Int) ≤ 1048576 := by have := bulkL_le v.l j; omega
      clear hzz
      have mc := hA.cell
      have mz := hA.lt
      by_cases hjl : j < v.l.length
      · have hjl' : (j : Int) < v.l.length := by omega
        by_cases hzm : (z : Int) ≤ most
        · obtain ⟨b, off, c, rfl, hbl, hc, hr⟩ := HL.out j v.l[j] (List.getElem?_eq_getElem hjl)
          have hr' := hr.later (hB : Below w.heap.size w wr)
          have hbr : b < wr.heap.size := Nat.lt_of_lt_of_le hbl hB.size
          obtain ⟨k1, n1, s1, a1, l1, c1, a2, l2, c2, rfl, g0, g1, g2, g3, g4⟩ := rep_cells hr' (hc.later hbl hB)
          have HR := hid hr'
          clear hr hr' hc
          have tb := bulkL_step v.l j hjl
          have tl := bulkL_le v.l (j + 1)
          have tc := cntL_take v.l j v.l[j] (List.getElem?_eq_getElem hjl)
          have hb0 : v.l[j].bulk ≤ 1048576 := by omega
          have TB := hid tb
          have TC := hid tc
          clear tb tc
          go_wp2_with (go_at_call 14; refine (ih v.l[j] _ _ HR.out hb0).mono ?_; rintro e w1 ⟨⟨z1, rfl, hz1, hz2⟩, hb1⟩; (have HZ1 := hid (And.intro hz1 hz2)); (have hz1b : (z1 : Int) ≤ 1048576 := by omega); clear hz1 hz2)
          go_roundw
          case rel =>
            have a1 := HZ.out; have a2 := HZ1.out; have a3 := TB.out; have a4 := TC.out
            refine ⟨j + 1, z + z1, by go_num, by go_num, by omega, ⟨by omega, fun hm => ?_⟩, hA.later hb1, hB.trans (hb1.mono hB.size)⟩
            have b1 := a1.2 (by omega); have b2 := a2.2 (by omega)
            omega
          case measure => simp [intOf]; omega
        · go_wp2_with fail
          go_meet
          case rel =>
            have a1 := HZ.out; have a3 := bulkL_le v.l j
            exact ⟨z, rfl, ⟨by omega, fun hm => by omega⟩, hA, hB⟩
      · have hjl' : ¬ (j : Int) < v.l.length := by omega
        go_wp2_with fail
        go_meet
        case rel =>
          have a1 := HZ.out
          rw [List.take_of_length_le (by omega)] at a1
          exact ⟨z, rfl, a1, hA, hB⟩
  case rest =>
    obtain ⟨z, rfl, hzz, hA, hB⟩ := hcut
    have HZ := hid hzz
    clear hzz
    go_wp2_with fail
    go_loopw [5, 7] (fun t i wq => ∃ (p y : Nat), i = .int .i64 p ∧ t = .int .i64 (y : Int) ∧ p ≤ v.f.length ∧ (y ≤ 1 + v.s.size + bulkL v.l + bulkF (v.f.take p) ∧ ((y : Int) ≤ most → 1 + v.s.size + bulkL v.l + bulkF (v.f.take p) + 1 ≤ 2 * y)) ∧ BoxV wq w.heap.size v al af cl cf ∧ Below w.heap.size w wq) (fun _ i _ => v.f.length - (intOf i).toNat)
    case atStart => exact ⟨0, z, rfl, rfl, Nat.zero_le _, by have := HZ.out; simpa [bulkF] using this, hA, hB⟩
    case round =>
      clear hA hB
      obtain ⟨p, y, rfl, rfl, hp, hyy, hA, hB⟩ := hrel
      have HY := hid hyy
      have hyb : (y : Int) ≤ 1048576 := by have := bulkF_le v.f p; omega
      clear hyy
      have mc := hA.cell
      have mz := hA.lt
      by_cases hpl : p < v.f.length
      · have hpl' : (p : Int) < v.f.length := by omega
        by_cases hym : (y : Int) ≤ most
        · obtain ⟨b, off, c, rfl, hbl, hnm, hcn, hc, hr⟩ := HF.out p v.f[p] (List.getElem?_eq_getElem hpl)
          have hr' := hr.later hB
          have hbr : b < wr.heap.size := Nat.lt_of_lt_of_le hbl hB.size
          obtain ⟨k1, n1, s1, a1, l1, c1, a2, l2, c2, rfl, g0, g1, g2, g3, g4⟩ := rep_cells hr' (hc.later hbl hB)
          have hcn' := (hB.cell (p := ⟨b, off + p * 6, none⟩) hbl).trans hcn
          have HR := hid hr'
          clear hr hr' hc hcn
          have tb := bulkF_step v.f p hpl
          have tl := bulkF_le v.f (p + 1)
          have tc := cntF_step v.f p hpl
          have hb0 : v.f[p].2.bulk ≤ 1048576 := by omega
          have hnb : (v.f[p].1.size : Int) ≤ 1048576 := by omega
          generalize v.f[p].1 = nm at *
          have TB := hid tb
          have TC := hid tc
          clear tb tc tl
          go_upto_block 3 with fail
          go_cut [5] from 33 to 62 (fun t wx => ∃ z1 : Nat, t = .int .i64 ((y + nm.size + z1 : Nat) : Int) ∧ (z1 ≤ v.f[p].2.bulk ∧ ((z1 : Int) ≤ most → v.f[p].2.bulk + 1 ≤ 2 * z1)) ∧ BoxV wx w.heap.size v al (some ⟨b, off, none⟩) cl cf ∧ Below w.heap.size w wx)
          case first =>
            go_wp2_with fail
            go_region_with (go_at_call 14; refine (ih v.f[p].2 _ _ (HR.out.later (by go_grown)) hb0).mono ?_; rintro e w1 ⟨⟨z1, rfl, hz1, hz2⟩, hb1⟩; (have HZ1 := hid (And.intro hz1 hz2)); (have hz1b : (z1 : Int) ≤ 1048576 := by omega); clear hz1 hz2; have x1 := hb1.cell (p := ⟨b, off + p * 6, none⟩) hbr; have x2 := fun o => hb1.cell (p := ⟨w.heap.size, o, none⟩) mz)
            all_goals
              go_wp2_with fail
              go_meet
              case rel =>
                have e1 : IntKind.i64.wrap ((y : Int) + (nm.size : Int)) = (y : Int) + nm.size := IntWalk.i64_in _ (by omega)
                have e2 : IntKind.i64.wrap ((y : Int) + (nm.size : Int) + (z1 : Int)) = (y : Int) + nm.size + z1 := IntWalk.i64_in _ (by omega)
                exact ⟨z1, by first | (rw [e1, e2]; simp) | (simp [e1, e2]; done) | go_num, HZ1.out, hA.later (below_undrew hb1), hB.trans ((below_undrew hb1).mono hB.size)⟩
          case rest =>
            clear hA hB mc mz
            obtain ⟨z1, rfl, hz1, hA, hB⟩ := hcut
            have HZ1 := hid hz1
            have hz1b : (z1 : Int) ≤ 1048576 := by omega
            clear hz1
            go_wp2_with fail
            go_roundw
            case rel =>
              have a1 := HY.out; have a2 := HZ1.out; have a3 := TB.out; have a4 := TC.out
              refine ⟨p + 1, y + nm.size + z1, by go_num, rfl, by omega, ⟨by omega, fun hm => ?_⟩, hA, hB⟩
              have b1 := a1.2 (by omega); have b2 := a2.2 (by omega)
              omega
            case measure => simp [intOf]; omega
        · go_wp2_with fail
          go_ret
          have a1 := HY.out; have a3 := bulkF_le v.f p
          exact ⟨⟨y, rfl, by omega, fun hm => by omega⟩, hB⟩
      · have hpl' : ¬ (p : Int) < v.f.length := by omega
        go_wp2_with fail
        go_ret
        have a1 := HY.out
        rw [List.take_of_length_le (by omega)] at a1
        exact ⟨⟨y, rfl, by omega, fun hm => by have := a1.2 hm; omega⟩, hB⟩
theorem weigh_any (d : Nat) (most : Int) : ∀ (v : V) (cs : List Value) (w : World), RepN d w v cs → v.bulk ≤ 1048576 → Calls Tryz.prog 14 #[.agg cs.toArray, .int .i64 most] w fun e w' => (∃ z : Nat, e = .returned (.int .i64 (z : Int)) ∧ z ≤ v.bulk ∧ ((z : Int) ≤ most → v.bulk + 1 ≤ 2 * z)) ∧ Below w.heap.size w w' := by
  induction d with
  | zero => intro v cs w h; exact h.elim
  | succ d ih => exact fun v cs w h hb => weigh_step d most ih v cs w h hb
end Go.Proofs.YtflcibmjblioaaaGreatDoor

/-
  Objects are not too great (foliowrightlaw.LightObjects).
-/
namespace Go.Proofs.YtflcibmjblioaaaGreatDoor
open Go.RowKit
set_option maxRecDepth 100000

/-- What is said of objects, or not. -/
def LightB (e : Ending) (L : List Ob) : Prop := e = .returned (.bool false) ∨ (e = .returned (.bool true) ∧ LightO L)
theorem lgt_snoc {L : List Ob} {k : Nat} {o : Ob} (h : L[k]? = some o) : lgt (L.take (k + 1)) = lgt (L.take k) + (2 * o.dt.size + (o.v.bulk + 1)) := by
  rw [List.take_add_one, h, lgt_app]
  simp [lgt]
set_option maxHeartbeats 2000000 in
theorem lightObs_any (d : Nat) (L : List Ob) (t : Value) (w : World) (hL : ObsN d w t L) (hb : obsBulk L ≤ 1048576) :
    Calls Tryz.prog 6 #[t] w fun e w' => LightB e L ∧ Below w.heap.size w w' := by
  obtain ⟨al, cl, rfl, hlL, hL⟩ := hL
  have HL := hid hL
  have HBk := hid hb
  unfold maxLen at hlL
  clear hL hb
  by_cases h3 : (70 : Int) < L.length
  · go_enter Tryz.func6, Tryz.ntmps6
    go_wp2
    go_ret
    exact ⟨.inl rfl, by go_grown⟩
  · have h70 : L.length ≤ 70 := by omega
    go_enter Tryz.func6, Tryz.ntmps6
    go_wp2
    go_loopw [3, 4] (fun nv i wr => ∃ (k n : Nat), nv = .int .i64 (n : Int) ∧ i = .int .i64 k ∧ k ≤ L.length ∧ n ≤ 20000 ∧ Hid (lgt (L.take k) ≤ 2 * n) ∧ Below w.heap.size w wr) (fun _ i _ => L.length - (intOf i).toNat)
    case atStart => exact ⟨0, 0, rfl, rfl, by omega, by omega, hid (by simp [lgt]), Below.refl _ _⟩
    case round =>
      obtain ⟨k, n, rfl, rfl, hk, hn, HK, hW⟩ := hrel
      have hk0 : (0 : Int) ≤ k := by omega
      by_cases hkl : k < L.length
      · have hkl' : (k : Int) < L.length := by omega
        obtain ⟨o, ho⟩ : ∃ o, L[k]? = some o := ⟨_, List.getElem?_eq_getElem hkl⟩
        obtain ⟨b, off, cs, rfl, hA⟩ := HL.out k o ho
        have hOb := hA.later hW
        obtain ⟨k1, n1, s1, a1, l1, c1, a2, l2, c2, rfl, g0, g1, g2, g3, g4, g5, g6, g7⟩ := ob_cells hOb
        have zb := hOb.1
        have HR := hid hOb.2.2.2
        have hbm := obsBulk_mem ho
        have hb9 : o.dt.size ≤ 1048576 ∧ o.v.bulk ≤ 1048576 := by have := HBk.out; omega
        have HD := hid hb9
        have hsn := hid (lgt_snoc ho)
        have HDT := hid (show IntKind.i64.wrap ((n : Int) + (o.dt.size : Int)) = (n : Int) + o.dt.size by rw [IntWalk.i64_in _ (by omega)])
        have hdd := HDT.out
        clear hA hOb ho hbm hb9
        go_upto_region 7 with fail
        go_cut [3] from 14 to 28 (fun t wx => ∃ z : Nat, t = .int .i64 ((n + o.dt.size + z : Nat) : Int) ∧ Hid (z ≤ o.v.bulk ∧ ((z : Int) ≤ 20000 → o.v.bulk + 1 ≤ 2 * z)) ∧ Below w.heap.size w wx)
        case first =>
          go_region_with (go_at_call 14; refine (weigh_any _ 20000 o.v _ _ (HR.out.later (by go_grown)) HD.out.2).mono ?_; rintro e w1 ⟨⟨z1, rfl, hz1, hz2⟩, hb1⟩; (have HZ1 := hid (And.intro hz1 hz2)); clear hz1 hz2; have x1 := hb1.cell (p := ⟨b, off + k * 8 + 7, none⟩) zb)
          all_goals
            go_wp2_with fail
            go_meet
            case rel =>
              have a1 := HZ1.out; have a2 := HD.out
              have e1 : IntKind.i64.wrap ((n : Int) + (o.dt.size : Int)) = (n : Int) + o.dt.size := IntWalk.i64_in _ (by omega)
              have e2 : IntKind.i64.wrap ((n : Int) + (o.dt.size : Int) + (z1 : Int)) = (n : Int) + o.dt.size + z1 := IntWalk.i64_in _ (by omega)
              exact ⟨z1, by first | (rw [e1, e2]; simp) | (simp [e2]; done) | go_num, hid a1, hW.trans ((below_undrew hb1).mono hW.size)⟩
        case rest =>
          clear g0 g1 g2 g3 g4 g5 g6 g7 zb
          obtain ⟨z, rfl, HZ, hWc⟩ := hcut
          have hzb : z ≤ 1048576 ∧ o.dt.size ≤ 1048576 := by have := HZ.out; have := HD.out; omega
          by_cases h2 : (20000 : Int) < ((n + o.dt.size + z : Nat) : Int)
          · go_wp2_with fail
            go_ret
            exact ⟨.inl rfl, hWc⟩
          · go_wp2_with fail
            go_roundw
            case rel =>
              refine ⟨k + 1, n + o.dt.size + z, rfl, by go_num, by omega, by omega, hid ?_, hWc⟩
              have a1 := HZ.out; have a2 := hsn.out; have a3 := HK.out
              have := a1.2 (by omega)
              omega
            case measure => simp [intOf]; omega
      · have hkl' : ¬ (k : Int) < L.length := by omega
        go_wp2
        go_ret
        refine ⟨.inr ⟨rfl, h70, ?_⟩, hW⟩
        have := HK.out
        rw [List.take_of_length_le (by omega)] at this
        omega
end Go.Proofs.YtflcibmjblioaaaGreatDoor
