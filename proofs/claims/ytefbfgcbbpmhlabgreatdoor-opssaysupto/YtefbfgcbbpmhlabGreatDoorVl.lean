/-
  The program's own answer what is wrong with a value: all that is in it may be; both together; the document's answer.
-/
import Derived.Test.YtefbfgcbbpmhlabGreatDoorVk
namespace Go.Proofs.YtefbfgcbbpmhlabGreatDoor
open Go.RowKit
set_option maxRecDepth 100000

theorem may_one {d : Nat} {v : V} {cs : List Value} {w : World} (deep : Int) (hv : RepN d w v cs) :
    Calls Tryz.prog 207 #[.agg cs.toArray, .int .i64 deep] w fun e w' => AnsB e (Own v) ∧ Below w.heap.size w w' := by
  obtain ⟨e, rfl⟩ := hv.inv
  have H := hid (fun (w1 : World) (hb : Below w.heap.size w w1) => may_says (hv.later hb))
  obtain ⟨al, af, cl, cf, rfl, _⟩ := hv
  go_enter Tryz.func207, Tryz.ntmps207
  go_wp2_with (go_at_call 208; refine (H.out _ (by go_grown)).mono ?_; rintro e w1 ⟨ha, hb1⟩; obtain ⟨r, rfl, hr1⟩ := ha.bool; have HR1 := hid hr1; clear hr1 ha)
  go_ret
  exact ⟨AnsB.of HR1.out, Below.trans (by go_grown) (hb1.mono (by simp))⟩
theorem thr_may (l : List V) (D s : Nat) : Thr (fun v _ _ => v.Shp) (fun _ => 0) l D s ↔ ShpL l := by
  rw [shpL_iff]; exact Iff.rfl
theorem shpF_map (l : List (ByteArray × V)) : ShpL (l.map (·.2)) ↔ ShpF l := by
  rw [shpL_iff, shpF_iff]
  refine ⟨fun h i q hq => h i _ (by simp [hq]), fun h i x hx => ?_⟩
  rw [List.getElem?_map] at hx
  obtain ⟨y, hy, rfl⟩ := Option.map_eq_some_iff.1 hx
  exact h i y hy
theorem sumN_zero (l : List V) : sumN (fun _ => 0) l = 0 := by
  unfold sumN
  induction l with
  | nil => rfl
  | cons x l ih => rw [List.map_cons, List.sum_cons, ih]

set_option maxHeartbeats 1000000 in
theorem each_may_step {P : Nat} {w0 : World} (hP : w0.heap.size ≤ P) {d : Nat}
    (ih : EachOk (.func (.func 207) #[] #[]) P w0 (fun _ w => P < w.heap.size) (fun v _ _ => v.Shp) (fun _ => 0) d) :
    EachOk (.func (.func 207) #[] #[]) P w0 (fun _ w => P < w.heap.size) (fun v _ _ => v.Shp) (fun _ => 0) (d + 1) := by
  intro v cs w deep s hv hb hA hdd hs3
  have HV := hid hv
  obtain ⟨al, af, cl, cf, rfl, ⟨hs, hl, hf⟩, hL, hF⟩ := hv
  rw [dep_eq] at hdd
  have hsz : P < w.heap.size := hA
  have HLc := hid (fun w1 h1 h2 h4 h5 => contains_l (F := .func (.func 207) #[] #[]) ih hP (fun s w w' h h' => Nat.lt_of_lt_of_le h h'.size) (fun x deep s h _ => h) v.l al cl w1 deep s (w.heap.size + 1) (w.heap.size + 1 + 1) hl hL (fun i x hx => by have := depL_mem _ i x hx; omega) h1 h2 hs3 (by omega) (by omega) h4 h5)
  have HFc := hid (fun w1 B7 h1 h2 h7 h4 h5 h8 => contains_f (F := .func (.func 207) #[] #[]) ih hP (fun s w w' h h' => Nat.lt_of_lt_of_le h h'.size) (fun x deep s h _ => h) v.f af cf w1 deep s (w.heap.size + 1) (w.heap.size + 1 + 1) B7 hf hF (fun i x hx => by have := depF_mem _ i x hx; omega) h1 h2 hs3 (by omega) (by omega) h7 h4 h5 h8)
  clear hL hF hl hf hs ih hA
  go_enter Tryz.func206, Tryz.ntmps206
  go_wp2_with (go_at_call 207; fail)
  go_at_call 207
  refine (may_one deep (HV.out.later (((hb.alloc hb.size _).alloc (by simp; have := hb.size; omega) _).alloc (by simp; have := hb.size; omega) _))).mono ?_
  rintro e w1 ⟨(⟨rfl, hr⟩ | ⟨rfl, hr⟩), hk1⟩
  · have HO := hid hr
    clear hr
    have A0 := At.later (((At.new w _ _ rfl).alloc _).alloc _) hk1
    have A4 := At.later ((At.new (w.alloc _) _ _ (by simp)).alloc _ : At _ (w.heap.size + 1) _ _) hk1
    have A5 := At.later (At.new ((w.alloc _).alloc _) _ _ (by simp) : At _ (w.heap.size + 1 + 1) _ _) hk1
    have hb1 := (KeepBut.of (P := P) hk1).below (((hb.alloc hb.size _).alloc (by simp; have := hb.size; omega) _).alloc (by simp; have := hb.size; omega) _) hP
    have hkw : KeepBut P w w1 := (KeepBut.of (by go_grown)).trans (KeepBut.of hk1)
    clear hk1 hb
    have c0 := A0.cell
    have l0 := A0.lt
    have l1 : P < w1.heap.size := Nat.lt_of_lt_of_le hsz hkw.size
    go_wp2_with (go_at_call 277; fail)
    go_at_call 277
    refine (HLc.out _ (hb1.alloc hb1.size _) (by simp; omega) (A4.alloc _) (A5.alloc _)).mono ?_
    rintro e w2 ⟨r, rfl, hr2, hrs2, hk2⟩
    have A7 := hk2.at (At.new w1 _ _ rfl) (by omega)
    have A02 := hk2.at (A0.alloc _) (by omega)
    have A42 := hk2.at (A4.alloc _) (by omega)
    have A52 := hk2.at (A5.alloc _) (by omega)
    have hb2 := hk2.below (hb1.alloc hb1.size _) hP
    have hkw2 : KeepBut P w w2 := hkw.trans ((KeepBut.of (by go_grown)).trans hk2)
    have l2 : P < w2.heap.size := Nat.lt_of_lt_of_le hsz hkw2.size
    clear hk2 hb1 c0 l0 A0 A4 A5 hkw hrs2
    have c0 := A02.cell
    have l0 := A02.lt
    rw [thr_may] at hr2
    have HQ := hid hr2
    clear hr2
    cases r
    · go_wp2_with (go_at_call 278; fail)
      go_at_call 278
      refine (HFc.out _ w1.heap.size hb2 l2 (by omega) A42 A52 A7).mono ?_
      rintro e w3 ⟨r3, rfl, hr3, hrs3, hk3⟩
      rw [thr_may, shpF_map] at hr3
      have HQ3 := hid hr3
      clear hr3 hrs3
      go_wp2_with fail
      go_ret
      refine ⟨!r3, rfl, ?_, fun _ => Nat.lt_of_lt_of_le hsz (hkw2.trans hk3).size, hkw2.trans hk3⟩
      rw [shp_eq]
      have q := HQ.out.1 (by first | rfl | trivial)
      have q3 := HQ3.out
      cases r3
      · exact iff_of_true rfl ⟨HO.out, q, q3.1 rfl⟩
      · exact iff_of_false (by simp) (fun h => by have := q3.2 h.2.2; cases this)
    · go_wp2_with fail
      go_ret
      refine ⟨false, rfl, iff_of_false (by simp) (fun h => ?_), (fun h => by cases h), hkw2⟩
      have := HQ.out.2 ((shp_eq v).1 h).2.1
      cases this
  · go_wp2_with fail
    go_ret
    exact ⟨false, rfl, iff_of_false (by simp) (fun h => hr ((shp_eq v).1 h).1), (fun h => by cases h), (KeepBut.of (by go_grown)).trans (KeepBut.of hk1)⟩
theorem each_may {P : Nat} {w0 : World} (hP : w0.heap.size ≤ P) (d : Nat) :
    EachOk (.func (.func 207) #[] #[]) P w0 (fun _ w => P < w.heap.size) (fun v _ _ => v.Shp) (fun _ => 0) d := by
  induction d with
  | zero => intro v cs w deep s hv; exact hv.elim
  | succ d ih => exact each_may_step hP ih

/-- What is wrong with a value, by number. -/
noncomputable def faultV (v : V) : Int := by
  classical exact if 300 < v.cnt ∨ 8 < v.dep then 2 else if v.Shp then 0 else 3
theorem fault_many {v : V} (h : 300 < v.cnt ∨ 8 < v.dep) : faultV v = 2 := by unfold faultV; rw [if_pos h]
theorem fault_none {v : V} (h : ¬ (300 < v.cnt ∨ 8 < v.dep)) (h' : v.Shp) : faultV v = 0 := by unfold faultV; rw [if_neg h, if_pos h']
theorem fault_shape {v : V} (h : ¬ (300 < v.cnt ∨ 8 < v.dep)) (h' : ¬ v.Shp) : faultV v = 3 := by unfold faultV; rw [if_neg h, if_neg h']

theorem check_says {d : Nat} {v : V} {cs : List Value} {w : World} (hv : RepN d w v cs) (hc : v.cnt ≤ 1048576) :
    Calls Tryz.prog 141 #[.agg cs.toArray] w fun e w' => e = .returned (errN (faultV v)) ∧ Below w.heap.size w w' := by
  obtain ⟨e, rfl⟩ := hv.inv
  have hdp := dep_le_cnt v
  have H1 := hid (fun w1 hb hA => each_few (P := w.heap.size + 1) (w0 := w) (by omega) (e + 1) v cs w1 1 0 hv hb hA (by omega) (by omega))
  have H2 := hid (fun w1 hb hA => each_may (P := w.heap.size + 1) (w0 := w) (by omega) (e + 1) v cs w1 1 0 hv hb hA (by omega) (by omega))
  obtain ⟨al, af, cl, cf, rfl, _⟩ := hv
  go_enter Tryz.func141, Tryz.ntmps141
  go_wp2_with (go_at_call 206; fail)
  go_at_call 206
  refine (H1.out _ (by go_grown) (by first | exact At.new _ _ _ (by simp) | exact (At.new _ _ _ (by simp)).setOne _)).mono ?_
  rintro e w1 ⟨r, rfl, hr, _, hk⟩
  have A0 := hk.at ((At.new w _ _ rfl).alloc _) (by omega)
  have hb1 := hk.below (show Below w.heap.size w _ by go_grown) (by omega)
  have l1 : w.heap.size + 1 < w1.heap.size := Nat.lt_of_lt_of_le (by simp) hk.size
  have c0 := A0.cell
  have l0 := A0.lt
  clear hk
  have HR := hid hr
  clear hr
  cases r
  · have hf : faultV v = 2 := fault_many (by
      have := HR.out
      by_cases h : 300 < v.cnt ∨ 8 < v.dep
      · exact h
      · have := this.2 ⟨by omega, by omega⟩; cases this)
    have HF := hid hf
    clear hf
    go_wp2_with fail
    go_ret
    exact ⟨by rw [HF.out, errN_pos (by omega)]; rfl, hb1⟩
  · have hn : ¬ (300 < v.cnt ∨ 8 < v.dep) := fun h => by have := HR.out.1 rfl; unfold Few at this; omega
    go_wp2_with (go_at_call 206; fail)
    go_at_call 206
    refine (H2.out _ hb1 l1).mono ?_
    rintro e w2 ⟨r, rfl, hr, _, hk⟩
    have hb2 := hk.below hb1 (by omega)
    clear hk
    have HR2 := hid hr
    clear hr
    cases r
    · have HF := hid (fault_shape hn (fun h => by have := HR2.out.2 h; cases this))
      go_wp2_with fail
      go_ret
      exact ⟨by rw [HF.out, errN_pos (by omega)]; rfl, hb2⟩
    · have HF := hid (fault_none hn (HR2.out.1 rfl))
      go_wp2_with fail
      go_ret
      exact ⟨by rw [HF.out, errN_0]; rfl, hb2⟩
theorem valueFault_says {d : Nat} {v : V} {cs : List Value} {w : World} (hv : RepN d w v cs) (hc : v.cnt ≤ 1048576) :
    Calls Tryz.prog 86 #[.agg cs.toArray] w fun e w' => e = .returned (.int .i64 (faultV v)) ∧ Below w.heap.size w w' := by
  obtain ⟨e, rfl⟩ := hv.inv
  have hdp := dep_le_cnt v
  have HV := hid hv
  obtain ⟨al, af, cl, cf, rfl, _⟩ := hv
  go_enter Tryz.func86, Tryz.ntmps86
  go_wp2_with (go_at_call 134; fail)
  go_at_call 134
  refine (parts_says _ v _ _ (HV.out.later (by go_grown)) hc).mono ?_
  rintro e w1 ⟨rfl, hb1⟩
  have A0 := At.later (At.new w _ _ rfl) hb1
  have hbw : Below w.heap.size w w1 := Below.trans (by go_grown) (hb1.mono (by simp))
  have c0 := A0.cell
  have l0 := A0.lt
  clear hb1
  by_cases h1 : (300 : Int) < v.cnt
  · have HF := hid (fault_many (v := v) (.inl (by omega)))
    go_wp2_with fail
    go_ret
    exact ⟨by rw [HF.out]; rfl, hbw⟩
  by_cases h2 : (8 : Int) < v.dep
  · have HF := hid (fault_many (v := v) (.inr (by omega)))
    go_wp2_with fail
    go_ret
    exact ⟨by rw [HF.out]; rfl, hbw⟩
  have hn : ¬ (300 < v.cnt ∨ 8 < v.dep) := by omega
  go_wp2_with (go_at_call 135; fail)
  go_at_call 135
  refine (shaped_says _ v _ _ (HV.out.later hbw)).mono ?_
  rintro e w2 ⟨(⟨rfl, hr⟩ | ⟨rfl, hr⟩), hb2⟩
  · have HF := hid (fault_none hn hr)
    go_wp2_with fail
    go_ret
    exact ⟨by rw [HF.out]; rfl, hbw.trans (hb2.mono hbw.size)⟩
  · have HF := hid (fault_shape hn hr)
    go_wp2_with fail
    go_ret
    exact ⟨by rw [HF.out]; rfl, hbw.trans (hb2.mono hbw.size)⟩
end Go.Proofs.YtefbfgcbbpmhlabGreatDoor
