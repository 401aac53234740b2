/-
  Contracts over values that only look: whether one is light (some answer), how many parts it has and how deep it is, names.
-/
import Derived.Test.YtidillbpoklnjaaDoorVh
namespace Go.Proofs.YtidillbpoklnjaaDoor
open Go.RowKit
set_option maxRecDepth 100000

set_option maxHeartbeats 1000000 in
theorem parts_step (d : Nat)
    (ih : ∀ (v : V) (cs : List Value) (w : World), RepN d w v cs → v.cnt ≤ 1048576 → Calls Tryd.prog 63 #[.agg cs.toArray] w fun e w' => e = .returned (.tuple #[.int .i64 (v.cnt : Int), .int .i64 (v.dep : Int)]) ∧ Below w.heap.size w w')
    (v : V) (cs : List Value) (w : World) (hv : RepN (d + 1) w v cs) (hb : v.cnt ≤ 1048576) :
    Calls Tryd.prog 63 #[.agg cs.toArray] w fun e w' => e = .returned (.tuple #[.int .i64 (v.cnt : Int), .int .i64 (v.dep : Int)]) ∧ Below w.heap.size w w' := by
  obtain ⟨al, af, cl, cf, rfl, ⟨hs, hl, hf⟩, hL, hF⟩ := hv
  unfold maxLen at hs hl hf
  have HL := hid hL
  have HF := hid hF
  clear hL hF
  have hdc := dep_le_cnt v
  rw [cnt_eq, dep_eq] at *
  generalize hCL : cntL v.l = CL at *
  generalize hCF : cntF v.f = CF at *
  generalize hDL : depL v.l = DL at *
  generalize hDF : depF v.f = DF at *
  have HC := hid (And.intro hCL (And.intro hCF (And.intro hDL hDF)))
  clear hCL hCF hDL hDF
  go_enter Tryd.func63, Tryd.ntmps63
  go_wp2_with fail
  go_loopw [4, 5, 6] (fun t u i wr => ∃ j z y : Nat, i = .int .i64 j ∧ t = .int .i64 z ∧ u = .int .i64 y ∧ j ≤ v.l.length ∧ (z = 1 + cntL (v.l.take j) ∧ y = depL (v.l.take j)) ∧ BoxV wr w.heap.size v al af cl cf ∧ Below w.heap.size w wr) (fun _ _ i _ => v.l.length - (intOf i).toNat)
  case atStart => exact ⟨0, 1, 0, rfl, rfl, rfl, Nat.zero_le _, by simp [cntL, depL], At.new _ _ _ rfl, by go_grown⟩
  case round =>
    obtain ⟨j, z, y, rfl, rfl, rfl, hj, hzy, hA, hB⟩ := hrel
    have hz1 : z ≤ 1 + CL := by have := cntL_take_le v.l j; have := HC.out.1; omega
    have hy1 : y ≤ DL := by have := depL_take_le v.l j; have := HC.out.2.2.1; omega
    have HZ := hid hzy
    clear hzy
    have mc := hA.cell
    have mz := hA.lt
    by_cases hjl : j < v.l.length
    · have hjl' : (j : Int) < v.l.length := by omega
      obtain ⟨b, off, c, rfl, hbl, hc, hr⟩ := HL.out j v.l[j] (List.getElem?_eq_getElem hjl)
      have T1 := hid (cntL_take v.l j v.l[j] (List.getElem?_eq_getElem hjl))
      have T2 := hid (depL_take v.l j v.l[j] (List.getElem?_eq_getElem hjl))
      have hc1 : z + v.l[j].cnt ≤ 1 + CL := by have := cntL_take_le v.l (j + 1); have := HC.out.1; have := T1.out; have := HZ.out; omega
      have hd1 : max y v.l[j].dep ≤ DL := by have := depL_take_le v.l (j + 1); have := HC.out.2.2.1; have := T2.out; have := HZ.out; omega
      have hr' := hr.later (hB : Below w.heap.size w wr)
      have hbr : b < wr.heap.size := Nat.lt_of_lt_of_le hbl hB.size
      obtain ⟨k1, n1, s1, a1, l1, c1, a2, l2, c2, rfl, g0, g1, g2, g3, g4⟩ := rep_cells hr' (hc.later hbl hB)
      have HR := hid hr'
      clear hr hr' hc
      generalize hX : v.l[j] = X at *
      generalize hXc : X.cnt = xc at *
      generalize hXd : X.dep = xd at *
      have HX := hid (And.intro hXc hXd)
      clear hX hXc hXd
      go_wp2_with (go_at_call 63; refine (ih X _ _ HR.out (by have := HX.out; omega)).mono ?_; rw [HX.out.1, HX.out.2]; rintro e w1 ⟨rfl, hb1⟩)
      all_goals go_roundw
      case rel =>
        refine ⟨j + 1, z + xc, max y xd, by go_num, by go_num, by go_num, by omega, ?_, hA.later hb1, hB.trans (hb1.mono hB.size)⟩
        have := HZ.out; have := T1.out; have := T2.out
        omega
      case measure => simp [intOf]; omega
    · have hjl' : ¬ (j : Int) < v.l.length := by omega
      have hje : j = v.l.length := by omega
      have HZ' : z = 1 + CL ∧ y = DL := by have h1 := HZ.out; have h2 := HC.out; rw [hje, List.take_length] at h1; omega
      obtain ⟨hz2, hy2⟩ := HZ'
      subst hz2
      have hy3 := hy2.symm
      subst hy3
      clear HZ hz1 hy1
      go_wp2_with fail
      go_loopw [4, 5, 9] (fun t u i wr => ∃ j z y : Nat, i = .int .i64 j ∧ t = .int .i64 z ∧ u = .int .i64 y ∧ j ≤ v.f.length ∧ (z = 1 + CL + cntF (v.f.take j) ∧ y = max DL (depF (v.f.take j))) ∧ BoxV wr w.heap.size v al af cl cf ∧ Below w.heap.size w wr) (fun _ _ i _ => v.f.length - (intOf i).toNat)
      case atStart => exact ⟨0, 1 + CL, DL, rfl, rfl, rfl, Nat.zero_le _, by simp [cntF, depF], hA, hB⟩
      case round =>
        clear hA hB mc mz
        obtain ⟨p, z, y, rfl, rfl, rfl, hp, hzy, hA, hB⟩ := hrel
        have hz1 : z ≤ 1 + CL + CF := by have := cntF_take_le v.f p; have := HC.out.2.1; omega
        have hy1 : y ≤ max DL DF := by have := depF_take_le v.f p; have := HC.out.2.2.2; omega
        have HZ := hid hzy
        clear hzy
        have mc := hA.cell
        have mz := hA.lt
        by_cases hpl : p < v.f.length
        · have hpl' : (p : Int) < v.f.length := by omega
          obtain ⟨b, off, c, rfl, hbl, hnm, hcn, hc, hr⟩ := HF.out p v.f[p] (List.getElem?_eq_getElem hpl)
          have T1 := hid (cntF_take v.f p v.f[p] (List.getElem?_eq_getElem hpl))
          have T2 := hid (depF_take v.f p v.f[p] (List.getElem?_eq_getElem hpl))
          have hc1 : z + v.f[p].2.cnt ≤ 1 + CL + CF := by have := cntF_take_le v.f (p + 1); have := HC.out.2.1; have := T1.out; have := HZ.out; omega
          have hd1 : max y v.f[p].2.dep ≤ max DL DF := by have := depF_take_le v.f (p + 1); have := HC.out.2.2.2; have := T2.out; have := HZ.out; omega
          have hr' := hr.later (hB : Below w.heap.size w wr)
          have hbr : b < wr.heap.size := Nat.lt_of_lt_of_le hbl hB.size
          obtain ⟨k1, n1, s1, a1, l1, c1, a2, l2, c2, rfl, g0, g1, g2, g3, g4⟩ := rep_cells hr' (hc.later hbl hB)
          have HR := hid hr'
          clear hr hr' hc hcn hnm
          generalize hX : v.f[p].2 = X at *
          generalize hXc : X.cnt = xc at *
          generalize hXd : X.dep = xd at *
          have HX := hid (And.intro hXc hXd)
          clear hX hXc hXd
          go_wp2_with (go_at_call 63; refine (ih X _ _ HR.out (by have := HX.out; omega)).mono ?_; rw [HX.out.1, HX.out.2]; rintro e w1 ⟨rfl, hb1⟩)
          all_goals go_roundw
          case rel =>
            refine ⟨p + 1, z + xc, max y xd, by go_num, by go_num, by go_num, by omega, ?_, hA.later hb1, hB.trans (hb1.mono hB.size)⟩
            have := HZ.out; have := T1.out; have := T2.out
            omega
          case measure => simp [intOf]; omega
        · have hpl' : ¬ (p : Int) < v.f.length := by omega
          have hpe : p = v.f.length := by omega
          have HZ' : z = 1 + CL + CF ∧ y = max DL DF := by have h1 := HZ.out; have h2 := HC.out; rw [hpe, List.take_length] at h1; omega
          obtain ⟨rfl, rfl⟩ := HZ'
          clear HZ hz1 hy1
          go_wp2_with fail
          go_ret2
          exact ⟨by congr 3; go_num, hB⟩
theorem parts_says (d : Nat) : ∀ (v : V) (cs : List Value) (w : World), RepN d w v cs → v.cnt ≤ 1048576 → Calls Tryd.prog 63 #[.agg cs.toArray] w fun e w' => e = .returned (.tuple #[.int .i64 (v.cnt : Int), .int .i64 (v.dep : Int)]) ∧ Below w.heap.size w w' := by
  induction d with
  | zero => intro v cs w h; exact h.elim
  | succ d ih => exact fun v cs w h => parts_step d ih v cs w h
end Go.Proofs.YtidillbpoklnjaaDoor
