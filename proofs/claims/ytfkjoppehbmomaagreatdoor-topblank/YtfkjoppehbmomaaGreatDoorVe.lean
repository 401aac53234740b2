/-
  What may be: values: the document's own answer (look only).
-/
import Derived.Test.YtfkjoppehbmomaaGreatDoorVd
import Derived.Test.YtfkjoppehbmomaaGreatDoorVc
namespace Go.Proofs.YtfkjoppehbmomaaGreatDoor
open Go.RowKit
set_option maxRecDepth 100000

/-- One name rises above another one. -/
def risesB (p q : ByteArray) : Bool := !(Op.bytesLess q.toList p.toList || q.toList == p.toList)
/-- Names that may be, and rise. -/
def Names (f : List (ByteArray × V)) : Prop := ∀ (i : Nat) (q : ByteArray × V), f[i]? = some q → nmOk q.1 = true ∧ ∀ (j : Nat) (p : ByteArray × V), i = j + 1 → f[j]? = some p → risesB p.1 q.1 = true
def Own (v : V) : Prop :=
  (v.k = 0 ∧ v.n = 0 ∧ v.s.size = 0 ∧ v.l.length = 0 ∧ v.f.length = 0) ∨
  (v.k = 1 ∧ (v.n = 0 ∨ v.n = 1) ∧ v.s.size = 0 ∧ v.l.length = 0 ∧ v.f.length = 0) ∨
  (v.k = 2 ∧ okF v.n = true ∧ v.s.size = 0 ∧ v.l.length = 0 ∧ v.f.length = 0) ∨
  (v.k = 3 ∧ v.n = 0 ∧ v.s.size ≤ 200 ∧ v.l.length = 0 ∧ v.f.length = 0) ∨
  (v.k = 4 ∧ v.n = 0 ∧ nmOk v.s = true ∧ v.l.length = 0 ∧ v.f.length = 0) ∨
  (v.k = 5 ∧ v.n = 0 ∧ v.s.size = 0 ∧ v.f.length = 0) ∨
  (v.k = 6 ∧ v.n = 0 ∧ v.s.size = 0 ∧ v.l.length = 0 ∧ Names v.f) ∨
  (v.k = 7 ∧ 1 ≤ v.n ∧ v.n ≤ 60 ∧ v.s.size = 0 ∧ v.l.length = 0 ∧ v.f.length = 0)
mutual
/-- It, and all that is in it, may be. -/
def V.Shp : V → Prop
  | ⟨k, n, s, l, f⟩ => Own ⟨k, n, s, l, f⟩ ∧ ShpL l ∧ ShpF f
def ShpL : List V → Prop
  | [] => True
  | x :: l => V.Shp x ∧ ShpL l
def ShpF : List (ByteArray × V) → Prop
  | [] => True
  | q :: l => ShpP q ∧ ShpF l
def ShpP : ByteArray × V → Prop
  | (_, x) => V.Shp x
end
theorem shp_eq (v : V) : v.Shp ↔ Own v ∧ ShpL v.l ∧ ShpF v.f := by cases v; rw [V.Shp]
theorem shpL_iff : ∀ (l : List V), ShpL l ↔ ∀ (i : Nat) (x : V), l[i]? = some x → x.Shp
  | [] => by simp [ShpL]
  | y :: l => by
    rw [ShpL, shpL_iff l]
    refine ⟨fun h i x hx => ?_, fun h => ⟨h 0 y rfl, fun i x hx => h (i + 1) x (by simpa using hx)⟩⟩
    cases i with
    | zero => simp at hx; subst hx; exact h.1
    | succ i => exact h.2 i x (by simpa using hx)
theorem shpF_iff : ∀ (l : List (ByteArray × V)), ShpF l ↔ ∀ (i : Nat) (q : ByteArray × V), l[i]? = some q → q.2.Shp
  | [] => by simp [ShpF]
  | y :: l => by
    rw [ShpF, shpF_iff l]
    have e : ShpP y ↔ y.2.Shp := by cases y; rw [ShpP]
    rw [e]
    refine ⟨fun h i x hx => ?_, fun h => ⟨h 0 y rfl, fun i x hx => h (i + 1) x (by simpa using hx)⟩⟩
    cases i with
    | zero => simp at hx; subst hx; exact h.1
    | succ i => exact h.2 i x (by simpa using hx)
theorem own_names {v : V} (h : Own v) : Names v.f := by
  have nil : v.f.length = 0 → Names v.f := fun e i q hq => by
    rw [List.eq_nil_of_length_eq_zero e] at hq; simp at hq
  rcases h with h | h | h | h | h | h | h | h
  · exact nil h.2.2.2.2
  · exact nil h.2.2.2.2
  · exact nil h.2.2.2.2
  · exact nil h.2.2.2.2
  · exact nil h.2.2.2.2
  · exact nil h.2.2.2
  · exact h.2.2.2.2
  · exact nil h.2.2.2.2.2

theorem own0 {v : V} (h : v.k = 0) : Own v ↔ v.n = 0 ∧ v.s.size = 0 ∧ v.l.length = 0 ∧ v.f.length = 0 := by simp [Own, h]
theorem own1 {v : V} (h : v.k = 1) : Own v ↔ (v.n = 0 ∨ v.n = 1) ∧ v.s.size = 0 ∧ v.l.length = 0 ∧ v.f.length = 0 := by simp [Own, h]
theorem own2 {v : V} (h : v.k = 2) : Own v ↔ okF v.n = true ∧ v.s.size = 0 ∧ v.l.length = 0 ∧ v.f.length = 0 := by simp [Own, h]
theorem own3 {v : V} (h : v.k = 3) : Own v ↔ v.n = 0 ∧ v.s.size ≤ 200 ∧ v.l.length = 0 ∧ v.f.length = 0 := by simp [Own, h]
theorem own4 {v : V} (h : v.k = 4) : Own v ↔ v.n = 0 ∧ nmOk v.s = true ∧ v.l.length = 0 ∧ v.f.length = 0 := by simp [Own, h]
theorem own5 {v : V} (h : v.k = 5) : Own v ↔ v.n = 0 ∧ v.s.size = 0 ∧ v.f.length = 0 := by simp [Own, h]
theorem own6 {v : V} (h : v.k = 6) : Own v ↔ v.n = 0 ∧ v.s.size = 0 ∧ v.l.length = 0 ∧ Names v.f := by simp [Own, h]
theorem own7 {v : V} (h : v.k = 7) : Own v ↔ 1 ≤ v.n ∧ v.n ≤ 60 ∧ v.s.size = 0 ∧ v.l.length = 0 ∧ v.f.length = 0 := by simp [Own, h]
theorem own8 {v : V} (h : v.k < 0 ∨ 7 < v.k) : ¬ Own v := by
  intro o
  rcases o with o | o | o | o | o | o | o | o <;> omega
theorem toList_nil (s : ByteArray) : s.toList = [] ↔ s.size = 0 := by
  rw [ByteArray.toList_eq, ← List.length_eq_zero_iff]
  simp

theorem below_drew {B : Nat} {w w' : World} (h : Below B w w') : Below B w w'.drew := h.trans ((Below.refl _ w').drew)
set_option maxHeartbeats 4000000 in
theorem shaped_step (d : Nat)
    (ih : ∀ (v : V) (cs : List Value) (w : World), RepN d w v cs → Calls Tryz.prog 54 #[.agg cs.toArray] w fun e w' => AnsB e v.Shp ∧ Below w.heap.size w w')
    (v : V) (cs : List Value) (w : World) (hv : RepN (d + 1) w v cs) :
    Calls Tryz.prog 54 #[.agg cs.toArray] w fun e w' => AnsB e v.Shp ∧ Below w.heap.size w w' := by
  obtain ⟨al, af, cl, cf, rfl, ⟨hs, hl, hf⟩, hL, hF⟩ := hv
  unfold maxLen at hl hf
  have HL := hid hL
  have HF := hid hF
  clear hL hF
  go_enter Tryz.func54, Tryz.ntmps54
  go_wp2_with fail
  go_loopw [3] (fun i wr => ∃ j : Nat, i = .int .i64 j ∧ j ≤ v.l.length ∧ (∀ (i : Nat) (x : V), i < j → v.l[i]? = some x → x.Shp) ∧ BoxV wr w.heap.size v al af cl cf ∧ Below w.heap.size w wr) (fun i _ => v.l.length - (intOf i).toNat)
  case atStart => exact ⟨0, rfl, Nat.zero_le _, fun i x hi => by omega, At.new _ _ _ rfl, by go_grown⟩
  case round =>
    obtain ⟨j, rfl, hj, hsh, hA, hB⟩ := hrel
    have HZ := hid hsh
    clear hsh
    have mc := hA.cell
    have mz := hA.lt
    by_cases hjl : j < v.l.length
    · have hjl' : (j : Int) < v.l.length := by omega
      obtain ⟨b, off, c, rfl, hbl, hc, hr⟩ := HL.out j v.l[j] (List.getElem?_eq_getElem hjl)
      have hr' := hr.later (hB : Below w.heap.size w wr)
      have hbr : b < wr.heap.size := Nat.lt_of_lt_of_le hbl hB.size
      obtain ⟨k1, n1, s1, a1, l1, c1, a2, l2, c2, rfl, g0, g1, g2, g3, g4⟩ := rep_cells hr' (hc.later hbl hB)
      have HR := hid hr'
      clear hr hr' hc
      go_wp2_with (go_at_call 54; refine (ih v.l[j] _ _ HR.out).mono ?_; rintro e w1 ⟨(⟨rfl, hr1⟩ | ⟨rfl, hr1⟩), hb1⟩ <;> (have HR1 := hid hr1; clear hr1))
      · go_roundw
        case rel =>
          refine ⟨j + 1, by go_num, by omega, fun i x hi hx => ?_, hA.later hb1, hB.trans (hb1.mono hB.size)⟩
          by_cases hij : i = j
          · subst hij
            rw [List.getElem?_eq_getElem hjl] at hx
            cases hx
            exact HR1.out
          · exact HZ.out i x (by omega) hx
        case measure => simp [intOf]; omega
      · go_ret
        exact ⟨.no fun h => HR1.out ((shpL_iff _).1 ((shp_eq v).1 h).2.1 j _ (List.getElem?_eq_getElem hjl)), hB.trans (hb1.mono hB.size)⟩
    · have hjl' : ¬ (j : Int) < v.l.length := by omega
      have HZL := hid ((shpL_iff v.l).2 fun i x hx => HZ.out i x (by have := (List.getElem?_eq_some_iff.1 hx).1; omega) hx)
      clear HZ
      go_wp2_with fail
      go_loopw [5] (fun i wr => ∃ j : Nat, i = .int .i64 j ∧ j ≤ v.f.length ∧ (∀ (i : Nat) (q : ByteArray × V), i < j → v.f[i]? = some q → q.2.Shp ∧ nmOk q.1 = true ∧ ∀ (j : Nat) (p : ByteArray × V), i = j + 1 → v.f[j]? = some p → risesB p.1 q.1 = true) ∧ BoxV wr w.heap.size v al af cl cf ∧ Below w.heap.size w wr) (fun i _ => v.f.length - (intOf i).toNat)
      case atStart => exact ⟨0, rfl, Nat.zero_le _, fun i x hi => by omega, hA, hB⟩
      case round =>
        clear hA hB mc mz
        obtain ⟨p, rfl, hp, hsh, hA, hB⟩ := hrel
        have HZ := hid hsh
        clear hsh
        have mc := hA.cell
        have mz := hA.lt
        by_cases hpl : p < v.f.length
        · have hpl' : (p : Int) < v.f.length := by omega
          obtain ⟨b, off, c, rfl, hbl, hnm, hcn, hc, hr⟩ := HF.out p v.f[p] (List.getElem?_eq_getElem hpl)
          have hr' := hr.later (hB : Below w.heap.size w wr)
          have hbr : b < wr.heap.size := Nat.lt_of_lt_of_le hbl hB.size
          obtain ⟨k1, n1, s1, a1, l1, c1, a2, l2, c2, rfl, g0, g1, g2, g3, g4⟩ := rep_cells hr' (hc.later hbl hB)
          have hcn' := (hB.cell (p := ⟨b, off + p * 6, none⟩) hbl).trans hcn
          have HR := hid hr'
          clear hr hr' hc hcn
          have bad : ¬ (v.f[p].2.Shp ∧ nmOk v.f[p].1 = true ∧ ∀ (j : Nat) (q : ByteArray × V), p = j + 1 → v.f[j]? = some q → risesB q.1 v.f[p].1 = true) → ¬ v.Shp := fun h hv => h ⟨(shpF_iff _).1 ((shp_eq v).1 hv).2.2 p _ (List.getElem?_eq_getElem hpl), own_names ((shp_eq v).1 hv).1 p _ (List.getElem?_eq_getElem hpl)⟩
          have BAD := hid bad
          clear bad
          by_cases hp0 : p = 0
          · subst hp0
            have hc0 : wr.cell? ⟨b, off, none⟩ = some (.string v.f[0].1) := by simpa using hcn'
            clear hcn'
            cases hok : nmOk v.f[0].1
            all_goals
              have HOK := hid hok
              clear hok
              go_wp2_with (first
                | (go_at_call 54; refine (ih v.f[0].2 _ _ HR.out).mono ?_; rintro e w1 ⟨(⟨rfl, hr1⟩ | ⟨rfl, hr1⟩), hb1⟩ <;> (have HR1 := hid hr1; clear hr1; have x1 := hb1.cell (p := ⟨b, off, none⟩) hbr; have x2 := fun o => hb1.cell (p := ⟨w.heap.size, o, none⟩) mz))
                | (go_at_call 85; refine (rNameMay v.f[0].1 _ hnm).mono ?_; rw [HOK.out]; rintro e w2 ⟨rfl, rfl⟩))
              all_goals go_region
              all_goals go_wp2_with fail
              all_goals first
                | (go_ret; exact ⟨.no (BAD.out fun h => by first | exact absurd (HOK.out.symm.trans h.2.1) Bool.false_ne_true | exact HR1.out h.1), hB.trans ((below_drew hb1).mono hB.size)⟩)
                | (go_roundw
                   case rel =>
                     refine ⟨1, by go_num, by omega, fun i x hi hx => ?_, hA.later (below_drew hb1), hB.trans ((below_drew hb1).mono hB.size)⟩
                     obtain rfl : i = 0 := by omega
                     rw [List.getElem?_eq_getElem hpl] at hx
                     cases hx
                     exact ⟨HR1.out, HOK.out, fun j p e => by omega⟩
                   case measure => simp [intOf]; omega)
          · obtain ⟨q, hq⟩ : ∃ q, p = q + 1 := ⟨p - 1, by omega⟩
            have hql : q < v.f.length := by omega
            obtain ⟨b2, off2, c2', e2, hbl2, hnm2, hcn2, _, _⟩ := HF.out q v.f[q] (List.getElem?_eq_getElem hql)
            cases e2
            have hcq := (hB.cell (p := ⟨b, off + q * 6, none⟩) hbl).trans hcn2
            clear hcn2
            subst hq
            have hq0 : (0 : Int) < q + 1 := by omega
            cases hok : nmOk v.f[q + 1].1
            all_goals
              have HOK := hid hok
              clear hok
              cases hle : (Op.bytesLess v.f[q + 1].1.toList v.f[q].1.toList || v.f[q + 1].1.toList == v.f[q].1.toList)
              all_goals
                have HLE := hid (show risesB v.f[q].1 v.f[q + 1].1 = _ from congrArg Bool.not hle)
                go_wp2_with (first
                  | (go_at_call 54; refine (ih v.f[q + 1].2 _ _ HR.out).mono ?_; rintro e w1 ⟨(⟨rfl, hr1⟩ | ⟨rfl, hr1⟩), hb1⟩ <;> (have HR1 := hid hr1; clear hr1; have x1 := hb1.cell (p := ⟨b, off + (q + 1) * 6, none⟩) hbr; have x3 := hb1.cell (p := ⟨b, off + q * 6, none⟩) hbr; have x2 := fun o => hb1.cell (p := ⟨w.heap.size, o, none⟩) mz))
                  | (go_at_call 85; refine (rNameMay v.f[q + 1].1 _ hnm).mono ?_; rw [HOK.out]; rintro e w2 ⟨rfl, rfl⟩))
                all_goals go_region
                all_goals go_wp2_with fail
                all_goals first
                  | (go_ret; exact ⟨.no (BAD.out fun h => by first | exact absurd (HOK.out.symm.trans h.2.1) Bool.false_ne_true | exact HR1.out h.1 | exact absurd (HLE.out.symm.trans (h.2.2 q _ rfl (List.getElem?_eq_getElem hql))) Bool.false_ne_true), hB.trans ((below_drew hb1).mono hB.size)⟩)
                  | (go_roundw
                     case rel =>
                       refine ⟨q + 1 + 1, by go_num, by omega, fun i x hi hx => ?_, hA.later (below_drew hb1), hB.trans ((below_drew hb1).mono hB.size)⟩
                       by_cases hiq : i = q + 1
                       · subst hiq
                         rw [List.getElem?_eq_getElem hpl] at hx
                         cases hx
                         refine ⟨HR1.out, HOK.out, fun j p e hpq => ?_⟩
                         have ejq : j = q := by omega
                         rw [ejq, List.getElem?_eq_getElem hql] at hpq
                         cases hpq
                         exact HLE.out
                       · exact HZ.out i x (by omega) hx
                     case measure => simp [intOf]; omega)
        · have hpl' : ¬ (p : Int) < v.f.length := by omega
          have HZF := hid ((shpF_iff v.f).2 fun i x hx => (HZ.out i x (by have := (List.getElem?_eq_some_iff.1 hx).1; omega) hx).1)
          have HZN := hid (show Names v.f from fun i x hx => (HZ.out i x (by have := (List.getElem?_eq_some_iff.1 hx).1; omega) hx).2)
          clear HZ
          have fin : v.Shp ↔ Own v := by rw [shp_eq]; exact ⟨fun h => h.1, fun h => ⟨h, HZL.out, HZF.out⟩⟩
          have HFIN := hid fin
          clear fin
          generalize hll : v.l.length = ll at *
          generalize hlf : v.f.length = lf at *
          have HLL := hid hll
          have HLF := hid hlf
          clear hll hlf
          by_cases hse : v.s.toList = []
          all_goals
            first
              | have hsz : v.s.size = 0 := (toList_nil _).1 hse
              | have hsz : ¬ v.s.size = 0 := fun h => hse ((toList_nil _).2 h)
            by_cases hk : v.k = 0
            · go_wp2_with fail
              all_goals go_ret
              all_goals refine ⟨AnsB.of ?_, hB⟩
              all_goals rw [HFIN.out, own0 hk, HLL.out, HLF.out]
              all_goals first | (simp only [Bool.false_eq_true, false_iff]; omega) | (simp only [beq_iff_eq]; omega) | (simp only [true_iff]; omega)
            by_cases hk1 : v.k = 1
            · go_wp2_with fail
              all_goals go_ret
              all_goals refine ⟨AnsB.of ?_, hB⟩
              all_goals rw [HFIN.out, own1 hk1, HLL.out, HLF.out]
              all_goals first | (simp only [Bool.false_eq_true, false_iff]; omega) | (simp only [beq_iff_eq]; omega) | (simp only [true_iff]; omega)
            by_cases hk2 : v.k = 2
            · cases hok : okF v.n
              all_goals
                first
                  | have hfl := flt_ok hok
                  | have hfl := flt_bad hok
                have HOK := hid hok
                clear hok
                go_wp2_with (go_at_call 88; refine (fault_any v.n _).mono ?_; rw [hfl]; rintro e w1 ⟨rfl, rfl⟩)
                all_goals go_ret
                all_goals refine ⟨AnsB.of ?_, hB⟩
                all_goals rw [HFIN.out, own2 hk2, HOK.out, HLL.out, HLF.out]
                all_goals simp only [Bool.false_eq_true, false_and, true_and]
                all_goals first | (simp only [beq_iff_eq]; omega) | omega | (simp only [false_iff]; omega) | (simp only [true_iff]; omega) | (simp only [iff_self]; done)
            by_cases hk3 : v.k = 3
            · go_wp2_with fail
              all_goals go_ret
              all_goals refine ⟨AnsB.of ?_, hB⟩
              all_goals rw [HFIN.out, own3 hk3, HLL.out, HLF.out]
              all_goals first | (simp only [Bool.false_eq_true, false_iff]; omega) | (simp only [beq_iff_eq]; omega) | (simp only [true_iff]; omega)
            by_cases hk4 : v.k = 4
            · cases hok : nmOk v.s
              all_goals
                have HOK := hid hok
                clear hok
                go_wp2_with (go_at_call 85; refine (rNameMay v.s _ hs).mono ?_; rw [HOK.out]; rintro e w1 ⟨rfl, rfl⟩)
                all_goals go_ret
                all_goals refine ⟨AnsB.of ?_, hB⟩
                all_goals rw [HFIN.out, own4 hk4, HOK.out, HLL.out, HLF.out]
                all_goals simp only [Bool.false_eq_true, false_and, true_and, and_false]
                all_goals first | (simp only [beq_iff_eq]; omega) | omega | (simp only [false_iff]; omega) | (simp only [true_iff]; omega) | (simp only [iff_self]; done)
            by_cases hk5 : v.k = 5
            · go_wp2_with fail
              all_goals go_ret
              all_goals refine ⟨AnsB.of ?_, hB⟩
              all_goals rw [HFIN.out, own5 hk5, HLF.out]
              all_goals first | (simp only [Bool.false_eq_true, false_iff]; omega) | (simp only [beq_iff_eq]; omega) | (simp only [true_iff]; omega)
            by_cases hk6 : v.k = 6
            · go_wp2_with fail
              all_goals go_ret
              all_goals refine ⟨AnsB.of ?_, hB⟩
              all_goals rw [HFIN.out, own6 hk6, iff_true_intro HZN.out, HLL.out]
              all_goals simp only [and_true]
              all_goals first | (simp only [Bool.false_eq_true, false_iff]; omega) | (simp only [beq_iff_eq]; omega) | (simp only [true_iff]; omega)
            by_cases hk7 : v.k = 7
            · go_wp2_with fail
              all_goals go_ret
              all_goals refine ⟨AnsB.of ?_, hB⟩
              all_goals rw [HFIN.out, own7 hk7, HLL.out, HLF.out]
              all_goals first | (simp only [Bool.false_eq_true, false_iff]; omega) | (simp only [beq_iff_eq]; omega) | (simp only [true_iff]; omega)
            go_wp2_with fail
            go_ret
            exact ⟨.no (by rw [HFIN.out]; exact own8 (by first | omega)), hB⟩
theorem shaped_says (d : Nat) : ∀ (v : V) (cs : List Value) (w : World), RepN d w v cs → Calls Tryz.prog 54 #[.agg cs.toArray] w fun e w' => AnsB e v.Shp ∧ Below w.heap.size w w' := by
  induction d with
  | zero => intro v cs w h; exact h.elim
  | succ d ih => exact fun v cs w h => shaped_step d ih v cs w h
end Go.Proofs.YtfkjoppehbmomaaGreatDoor
