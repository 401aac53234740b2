/-
  Joined: Oo, Ok.
-/
import Derived.Test.YtefbfgcbbpmhlabGreatDoorOe
import Derived.Test.YtefbfgcbbpmhlabGreatDoorVd2
import Derived.Deep.QuietTactic
import Derived.BigQuiet
import Derived.Deep.RegionWith
import Derived.Deep.CutBlock

/-
  Operators' names: the document's answer's.
-/
namespace Go.Proofs.YtefbfgcbbpmhlabGreatDoor
open Go.RowKit
set_option maxRecDepth 100000

theorem opB_iff (c : UInt8) (b : Bool) (n : Int) (h : (c.toNat : Int) = n) : opB c b = true ↔ ((97 ≤ n ∧ n ≤ 122) ∨ (65 ≤ n ∧ n ≤ 90) ∨ n = 42 ∨ n = 39 ∨ n = 34 ∨ (48 ≤ n ∧ n ≤ 57 ∧ b = true)) := by
  unfold opB
  subst h
  cases b <;> simp only [Bool.or_eq_true, Bool.and_eq_true, decide_eq_true_eq, beq_iff_eq, Bool.false_eq_true, and_false, and_true, or_false] <;> omega
set_option maxHeartbeats 2000000 in
theorem operatorMay_says (s : ByteArray) (w : World) (hs : s.size ≤ maxLen) : Calls Tryz.prog 80 #[.string s] w fun e w' => e = .returned (.bool (opMay s)) ∧ w' = w := by
  by_cases h1 : s.size = 0
  · have e0 : opMay s = false := by unfold opMay; simp [h1]
    rw [e0]
    have hz : s = ⟨#[]⟩ := by
      apply ByteArray.ext; exact Array.eq_empty_of_size_eq_zero h1
    subst hz
    go_enter Tryz.func80, Tryz.ntmps80
    go_wp2
    go_ret
    exact ⟨rfl, rfl⟩
  have g0 : ¬ (s.size : Int) < 1 := by omega
  by_cases h2 : s.size ≤ 8
  · have h2' : ¬ (8 : Int) < s.size := by omega
    have hp := opWord_parts s
    have HM := hid (fun h3 => opMay_eq s h1 h2 h3)
    cases g1 : (s.toList == [116, 114, 117, 101])
    · cases g2 : (s.toList == [102, 97, 108, 115, 101])
      · cases g3 : (s.toList == [110, 117, 108, 108])
        · rw [g1, g2, g3] at hp
          rw [HM.out hp]
          clear hp HM
          go_enter Tryz.func80, Tryz.ntmps80
          go_wp2
          go_loop [3] (fun i => ∃ k : Nat, i = .int .i64 k ∧ k ≤ s.size ∧ opAll (s.data.toList.take k) false = true) (fun i => s.size - (intOf i).toNat)
          case atStart => exact ⟨0, rfl, by omega, rfl⟩
          case round =>
            obtain ⟨k, rfl, hk, ha⟩ := hrel
            by_cases hlt : k < s.size
            · have hlt' : (k : Int) < s.size := by omega
              have hk0 : (0 : Int) ≤ (k : Int) := by omega
              have HN := hid (fun h => opAll_no (s := s) (k := k) hlt h)
              have HY := hid (fun h => opAll_yes (s := s) (k := k) hlt ha h)
              have HP := hid (opB_iff s[k] (decide (k ≠ 0)) _ rfl)
              rw [decide_eq_true_iff] at HP
              have hc := s[k].toNat_lt
              clear ha
              rcases Nat.eq_zero_or_pos k with rfl | hkp
              all_goals go_wp2
              all_goals (try simp only [Bool.not_eq_eq_eq_not, Bool.not_false, Bool.not_true, beq_iff_eq, decide_eq_true_eq, beq_eq_false_iff_ne] at *)
              all_goals first
                | (go_ret
                   refine ⟨ret_bool (HN.out (Bool.eq_false_iff.2 fun q => ?_)).symm, rfl⟩
                   have q := HP.out.1 q
                   clear HN HY HP
                   omega)
                | (refine ⟨⟨k + 1, by go_num, by omega, HY.out (HP.out.2 ?_)⟩, by simp [intOf]; omega⟩
                   clear HN HY HP
                   omega)
                | (refine ⟨⟨1, rfl, by omega, HY.out (HP.out.2 ?_)⟩, by simp [intOf]; omega⟩
                   clear HN HY HP
                   omega)
                | (exfalso
                   clear HN HY HP
                   omega)
                | trace_state
            · have hlt' : ¬ (k : Int) < s.size := by omega
              have HY := hid (show opAll s.data.toList false = true by rw [List.take_of_length_le (by simp; omega)] at ha; exact ha)
              clear ha
              go_wp2
              go_ret
              exact ⟨ret_bool HY.out.symm, rfl⟩
        · rw [show opMay s = false by unfold opMay; rw [hp, g1, g2, g3]; simp]
          clear hp HM
          go_enter Tryz.func80, Tryz.ntmps80
          go_wp2
          go_ret
          exact ⟨rfl, rfl⟩
      · rw [show opMay s = false by unfold opMay; rw [hp, g1, g2]; simp]
        clear hp HM
        go_enter Tryz.func80, Tryz.ntmps80
        go_wp2
        go_ret
        exact ⟨rfl, rfl⟩
    · rw [show opMay s = false by unfold opMay; rw [hp, g1]; simp]
      clear hp HM
      go_enter Tryz.func80, Tryz.ntmps80
      go_wp2
      go_ret
      exact ⟨rfl, rfl⟩
  · have h2' : (8 : Int) < s.size := by omega
    rw [show opMay s = false by unfold opMay; simp [h2]]
    go_enter Tryz.func80, Tryz.ntmps80
    go_wp2
    go_ret
    exact ⟨rfl, rfl⟩
end Go.Proofs.YtefbfgcbbpmhlabGreatDoor

/-
  Two lists of operators that are the same.
-/
namespace Go.Proofs.YtefbfgcbbpmhlabGreatDoor
open Go.RowKit
set_option maxRecDepth 100000

theorem alikeSelf {d : Nat} (x : V) (cs ds : List Value) (w : World) (h1 : RepN d w x cs) (h2 : RepN d w x ds) :
    Calls Tryz.prog 57 #[.agg cs.toArray, .agg ds.toArray] w fun e w' => e = .returned (.bool true) ∧ Below w.heap.size w w' := by
  refine (alike_says d x x cs ds w h1 h2).mono ?_
  rintro e w' ⟨⟨rfl, _⟩ | ⟨rfl, hn⟩, hb⟩
  · exact ⟨rfl, hb⟩
  · exact absurd rfl hn
/-- A list of values in memory: its slice, and each value. -/
theorem rep_list {d : Nat} {w : World} {l : List V} {t : Value} (h : RepN d w (listV5 l) (listC t)) : ∃ a c, t = .slice a l.length c ∧ l.length ≤ maxLen ∧ ∀ (i : Nat) x, l[i]? = some x → ∃ b off cs, a = some ⟨b, off, none⟩ ∧ b < w.heap.size ∧ CellsAt w b (off + i * 5) cs ∧ RepN (d - 1) w x cs := by
  match d, h with
  | d + 1, h =>
    obtain ⟨al, af, cl, cf, h1, h2, h3, _⟩ := h
    unfold listC listV5 at h1
    simp only [List.cons.injEq, and_true] at h1
    exact ⟨al, cl, h1.2.2.2.1, h2.2.1, fun i x hx => by simpa using h3 i x hx⟩
set_option maxHeartbeats 4000000 in
theorem sameOps (d : Nat) (L : List OpP) (ta tb : Value) (w : World) (h1 : OpsN d w ta L) (h2 : OpsN d w tb L) :
    Calls Tryz.prog 35 #[ta, tb] w fun e w' => e = .returned (.bool true) ∧ Below w.heap.size w w' := by
  obtain ⟨aa, ca, rfl, hl, h1⟩ := h1
  obtain ⟨ab, cb, rfl, _, h2⟩ := h2
  have H1 := hid h1
  have H2 := hid h2
  unfold maxLen at hl
  clear h1 h2
  go_enter Tryz.func35, Tryz.ntmps35
  go_wp2
  go_loopw [5] (fun i wr => ∃ j : Nat, i = .int .i64 j ∧ j ≤ L.length ∧ Below w.heap.size w wr) (fun i _ => L.length - (intOf i).toNat)
  case atStart => exact ⟨0, rfl, Nat.zero_le _, Below.refl _ _⟩
  case round =>
    obtain ⟨j, rfl, hj, hB⟩ := hrel
    by_cases hjl : j < L.length
    · have hjl' : (j : Int) < L.length := by omega
      have hj0 : (0 : Int) ≤ j := by omega
      obtain ⟨b, off, tA, rfl, hbl, k0, k1, hsz, hrp⟩ := H1.out j L[j] (List.getElem?_eq_getElem hjl)
      obtain ⟨b', off', tA', rfl, hbl', k0', k1', _, hrp'⟩ := H2.out j L[j] (List.getElem?_eq_getElem hjl)
      generalize L[j] = o at k0 k1 k0' k1' hsz hrp hrp'
      obtain ⟨nm, A⟩ := o
      simp only at k0 k1 k0' k1' hsz hrp hrp'
      obtain ⟨al, cl, rfl, hlA, hL⟩ := rep_list hrp
      obtain ⟨al', cl', rfl, _, hL'⟩ := rep_list hrp'
      have HL := hid hL
      have HL' := hid hL'
      have m0 := (hB.cell (p := ⟨b, _, none⟩) hbl).trans k0
      have m1 := (hB.cell (p := ⟨b, _, none⟩) hbl).trans k1
      have m0' := (hB.cell (p := ⟨b', _, none⟩) hbl').trans k0'
      have m1' := (hB.cell (p := ⟨b', _, none⟩) hbl').trans k1'
      have zb : b < wr.heap.size := Nat.lt_of_lt_of_le hbl hB.size
      have zb' : b' < wr.heap.size := Nat.lt_of_lt_of_le hbl' hB.size
      clear hL hL' hrp hrp'
      go_wp2_with fail
      go_quiet (fail)
      have hBq : Below w.heap.size w (wr.drewN nq) := below_drewN hB nq
      generalize wr.drewN nq = wq at *
      clear m0 m0' k0 k0'
      unfold maxLen at hlA
      go_wp2_with fail
      go_loopw [6] (fun k wx => ∃ i : Nat, k = .int .i64 i ∧ i ≤ A.length ∧ Below w.heap.size w wx) (fun k _ => A.length - (intOf k).toNat)
      case atStart => exact ⟨0, rfl, Nat.zero_le _, hBq⟩
      case round =>
        obtain ⟨i, rfl, hi, hX⟩ := hrel
        clear m1 m1'
        have m1 := (hX.cell (p := ⟨b, _, none⟩) hbl).trans k1
        have m1' := (hX.cell (p := ⟨b', _, none⟩) hbl').trans k1'
        have zx : b < wr.heap.size := Nat.lt_of_lt_of_le hbl hX.size
        have zx' : b' < wr.heap.size := Nat.lt_of_lt_of_le hbl' hX.size
        have hi0 : (0 : Int) ≤ i := by omega
        by_cases hil : i < A.length
        · have hil' : (i : Int) < A.length := by omega
          obtain ⟨g, og, cs, rfl, hgl, hc, hr⟩ := HL.out i A[i] (List.getElem?_eq_getElem hil)
          obtain ⟨g', og', cs', rfl, hgl', hc', hr'⟩ := HL'.out i A[i] (List.getElem?_eq_getElem hil)
          have q1 := hr.later hX
          have q2 := hr'.later hX
          obtain ⟨x1, n1, s1, a1, l1, c1, a2, l2, c2, rfl, g0, g1, g2, g3, g4⟩ := rep_cells q1 (hc.later hgl hX)
          obtain ⟨x1', n1', s1', a1', l1', c1', a2', l2', c2', rfl, g0', g1', g2', g3', g4'⟩ := rep_cells q2 (hc'.later hgl' hX)
          have zg : g < wr.heap.size := Nat.lt_of_lt_of_le hgl hX.size
          have zg' : g' < wr.heap.size := Nat.lt_of_lt_of_le hgl' hX.size
          have HR := hid (And.intro q1 q2)
          clear hr hr' hc hc' q1 q2
          go_wp2_with fail
          go_region_with (go_at_call 57; refine (alikeSelf A[i] _ _ _ (HR.out.1.later (by go_grown)) (HR.out.2.later (by go_grown))).mono ?_; rintro e w1 ⟨rfl, hb1⟩)
          all_goals
            go_wp2_with fail
            exact ⟨⟨i + 1, by go_num, by omega, hX.trans ((below_undrew hb1).mono hX.size)⟩, by simp [intOf]; omega⟩
        · have hil' : ¬ (i : Int) < A.length := by omega
          go_wp2_with fail
          exact ⟨⟨j + 1, by go_num, by omega, hX⟩, by simp [intOf]; omega⟩
    · have hjl' : ¬ (j : Int) < L.length := by omega
      go_wp2
      go_ret
      exact ⟨rfl, hB⟩
end Go.Proofs.YtefbfgcbbpmhlabGreatDoor
