/-
  Joined: Vk, Vl, Yy.
-/
import Derived.Test.YtobpidmlgldnmaaGreatDoorVj
import Derived.Laws.EntriesVeiled
import Derived.Test.YtobpidmlgldnmaaGreatDoorYx

/-
  The program's own answer what is wrong with a value: there are too many in it, or it is too deep.
-/
namespace Go.Proofs.YtobpidmlgldnmaaGreatDoor
open Go.RowKit
set_option maxRecDepth 100000

theorem few_one (c0 c1 c2 c3 c4 : Value) (deep s : Nat) (w : World) (P : Nat) (hP : At w P 3 #[.int .i64 s]) (hs : s ≤ 300) (hd : deep ≤ 2000000) :
    Calls Tryz.prog 30 #[.agg #[c0, c1, c2, c3, c4], .int .i64 deep, .pointer (some ⟨P, 0, none⟩)] w fun e w' => AnsB e (s + 1 ≤ 300 ∧ deep ≤ 8) ∧ At w' P 3 #[.int .i64 (s + 1)] ∧ KeepBut P w w' := by
  have c := hP.cell 0
  have l := hP.lt
  have fr := hP.free 0
  simp at c
  go_enter Tryz.func30, Tryz.ntmps30
  by_cases h1 : (s : Int) + 1 ≤ 300
  · by_cases h2 : (deep : Int) ≤ 8
    · go_wp2_with fail
      go_ret
      exact ⟨.yes (by omega), (hP.setOne _).alloc _, ((KeepBut.refl _ _).setCell _ _).trans (KeepBut.of ((Below.refl _ _).alloc (Nat.le_refl _) _))⟩
    · go_wp2_with fail
      go_ret
      exact ⟨.no (by omega), (hP.setOne _).alloc _, ((KeepBut.refl _ _).setCell _ _).trans (KeepBut.of ((Below.refl _ _).alloc (Nat.le_refl _) _))⟩
  · go_wp2_with fail
    go_ret
    exact ⟨.no (by omega), (hP.setOne _).alloc _, ((KeepBut.refl _ _).setCell _ _).trans (KeepBut.of ((Below.refl _ _).alloc (Nat.le_refl _) _))⟩

/-- Few enough, and not too deep. -/
def Few (v : V) (deep s : Nat) : Prop := s + v.cnt ≤ 300 ∧ deep + v.dep ≤ 9
theorem sumN_cnt : ∀ l : List V, sumN V.cnt l = cntL l
  | [] => by simp [sumN, cntL]
  | x :: l => by have := sumN_cnt l; unfold sumN at *; rw [List.map_cons, List.sum_cons, cntL, this]
theorem cntF_map : ∀ l : List (ByteArray × V), cntL (l.map (·.2)) = cntF l
  | [] => by simp [cntL, cntF]
  | x :: l => by rw [List.map_cons, cntL, cntF_cons, cntF_map l]
theorem depF_map : ∀ l : List (ByteArray × V), depL (l.map (·.2)) = depF l
  | [] => by simp [depL, depF]
  | x :: l => by rw [List.map_cons, depL, depF_cons, depF_map l]
theorem thr_few : ∀ (l : List V) (D s : Nat), D ≤ 9 → s ≤ 300 → (Thr Few V.cnt l D s ↔ s + cntL l ≤ 300 ∧ D + depL l ≤ 9)
  | [], D, s, hD, hs => by simp [Thr, cntL, depL, hD, hs]
  | x :: l, D, s, hD, hs => by
    have e : Thr Few V.cnt (x :: l) D s ↔ Few x D s ∧ Thr Few V.cnt l D (s + x.cnt) := by
      refine ⟨fun h => ⟨by simpa [sumN] using h 0 x rfl, fun i y hy => ?_⟩, fun h i y hy => ?_⟩
      · have := h (i + 1) y (by simpa using hy)
        rw [List.take_succ_cons, sumN_cnt, cntL] at this
        rw [sumN_cnt, Nat.add_assoc]; exact this
      · cases i with
        | zero => simp at hy; subst hy; simpa [sumN] using h.1
        | succ i =>
          have := h.2 i y (by simpa using hy)
          rw [List.take_succ_cons, sumN_cnt, cntL, ← Nat.add_assoc]
          rw [sumN_cnt] at this
          exact this
    rw [e, cntL, depL]
    by_cases hx : s + x.cnt ≤ 300
    · rw [thr_few l D (s + x.cnt) hD hx]
      unfold Few
      omega
    · refine iff_of_false (fun h => hx h.1.1) (fun h => by omega)
theorem depL_mem : ∀ (l : List V) (i : Nat) (x : V), l[i]? = some x → x.dep ≤ depL l
  | [], i, x, h => by simp at h
  | y :: l, 0, x, h => by simp at h; subst h; rw [depL]; omega
  | y :: l, i + 1, x, h => by have := depL_mem l i x (by simpa using h); rw [depL]; omega
theorem depF_mem (l : List (ByteArray × V)) (i : Nat) (q : ByteArray × V) (h : l[i]? = some q) : q.2.dep ≤ depF l := by
  rw [← depF_map]; exact depL_mem _ i _ (by simp [h])

set_option maxHeartbeats 1000000 in
theorem each_few_step {P : Nat} {w0 : World} (hP : w0.heap.size ≤ P) {d : Nat}
    (ih : EachOk (.func (.func 30) #[] #[.pointer (some ⟨P, 0, none⟩)]) P w0 (fun s w => At w P 3 #[.int .i64 (s : Nat)]) Few V.cnt d) :
    EachOk (.func (.func 30) #[] #[.pointer (some ⟨P, 0, none⟩)]) P w0 (fun s w => At w P 3 #[.int .i64 (s : Nat)]) Few V.cnt (d + 1) := by
  intro v cs w deep s hv hb hA hdd hs3
  obtain ⟨al, af, cl, cf, rfl, ⟨hs, hl, hf⟩, hL, hF⟩ := hv
  rw [dep_eq] at hdd
  have hsz := hA.lt
  have HLc := hid (fun w1 s1 h1 h2 h3 h4 h5 => contains_l (F := .func (.func 30) #[] #[.pointer (some ⟨P, 0, none⟩)]) ih hP (fun s w w' h h' => At.later h h') (fun x deep s _ h => h.1) v.l al cl w1 deep s1 (w.heap.size + 1) (w.heap.size + 1 + 1) hl hL (fun i x hx => by have := depL_mem _ i x hx; omega) h1 h2 h3 (by omega) (by omega) h4 h5)
  have HFc := hid (fun w1 s1 B7 h1 h2 h3 h7 h4 h5 h8 => contains_f (F := .func (.func 30) #[] #[.pointer (some ⟨P, 0, none⟩)]) ih hP (fun s w w' h h' => At.later h h') (fun x deep s _ h => h.1) v.f af cf w1 deep s1 (w.heap.size + 1) (w.heap.size + 1 + 1) B7 hf hF (fun i x hx => by have := depF_mem _ i x hx; omega) h1 h2 h3 (by omega) (by omega) h7 h4 h5 h8)
  clear hL hF hl hf hs ih
  go_enter Tryz.func31, Tryz.ntmps31
  go_wp2_with (go_at_call 30; fail)
  go_at_call 30
  refine (few_one _ _ _ _ _ deep s _ P (hA.later (by go_grown)) hs3 (by omega)).mono ?_
  rintro e w1 ⟨(⟨rfl, hr⟩ | ⟨rfl, hr⟩), hA1, hk1⟩
  · have A0 := hk1.at (((At.new w _ _ rfl).alloc _).alloc _) (by omega)
    have A4 := hk1.at ((At.new (w.alloc _) _ _ (by simp)).alloc _ : At _ (w.heap.size + 1) _ _) (by omega)
    have A5 := hk1.at (At.new ((w.alloc _).alloc _) _ _ (by simp) : At _ (w.heap.size + 1 + 1) _ _) (by omega)
    have hb1 := hk1.below (((hb.alloc hb.size _).alloc (by simp; have := hb.size; omega) _).alloc (by simp; have := hb.size; omega) _) hP
    have hkw : KeepBut P w w1 := (KeepBut.of (by go_grown)).trans hk1
    clear hk1 hb
    have c0 := A0.cell
    have l0 := A0.lt
    have l1 := hA1.lt
    go_wp2_with (go_at_call 62; fail)
    go_at_call 62
    refine (HLc.out _ (s + 1) (hb1.alloc hb1.size _) (by simpa using hA1.alloc _) hr.1 (A4.alloc _) (A5.alloc _)).mono ?_
    rintro e w2 ⟨r, rfl, hr2, hrs2, hk2⟩
    have A7 := hk2.at (At.new w1 _ _ rfl) (by omega)
    have A02 := hk2.at (A0.alloc _) (by omega)
    have A42 := hk2.at (A4.alloc _) (by omega)
    have A52 := hk2.at (A5.alloc _) (by omega)
    have hb2 := hk2.below (hb1.alloc hb1.size _) hP
    have hkw2 : KeepBut P w w2 := hkw.trans ((KeepBut.of (by go_grown)).trans hk2)
    clear hk2 hb1 c0 l0 A0 A4 A5 hkw
    have c0 := A02.cell
    have l0 := A02.lt
    have hfd : Few v deep s ↔ s + (1 + cntL v.l + cntF v.f) ≤ 300 ∧ deep + (1 + max (depL v.l) (depF v.f)) ≤ 9 := by unfold Few; rw [cnt_eq, dep_eq]
    have T1 := thr_few v.l (deep + 1) (s + 1) (by omega) (by omega)
    have HQ := hid (And.intro hr2 (And.intro hrs2 (And.intro hfd T1)))
    clear hr2 hrs2 hfd T1
    cases r
    · have HS2 := hid (HQ.out.2.1 rfl)
      go_wp2_with (go_at_call 63; fail)
      go_at_call 63
      refine (HFc.out _ (s + 1 + sumN V.cnt v.l) w1.heap.size hb2 HS2.out.1 HS2.out.2 (by omega) A42 A52 A7).mono ?_
      rintro e w3 ⟨r3, rfl, hr3, hrs3, hk3⟩
      have T2 := thr_few (v.f.map (·.2)) (deep + 1) (s + 1 + sumN V.cnt v.l) (by omega) HS2.out.2
      have HQ3 := hid (And.intro hr3 (And.intro hrs3 T2))
      clear hr3 hrs3 T2
      go_wp2_with fail
      go_ret
      have q := HQ.out
      have q3 := HQ3.out
      rw [sumN_cnt, cntF_map, depF_map] at q3
      have f1 := q.2.2.2.1 (q.1.1 (by first | rfl | trivial))
      refine ⟨!r3, rfl, ?_, fun h => ?_, hkw2.trans hk3⟩
      · rw [q.2.2.1]
        have e3 := q3.1.trans q3.2.2
        cases r3
        · have := e3.1 rfl
          exact iff_of_true rfl (by omega)
        · refine iff_of_false (by simp) (fun h => ?_)
          have := e3.2 (by omega)
          cases this
      · have h3 : r3 = false := by simpa using h
        have := (q3.2.1 h3).1
        rw [sumN_cnt, cntF_map] at this
        rw [cnt_eq, show s + (1 + cntL v.l + cntF v.f) = s + 1 + cntL v.l + cntF v.f by omega]
        exact this
    · go_wp2_with fail
      go_ret
      have q := HQ.out
      refine ⟨false, rfl, iff_of_false (by simp) (fun h => ?_), (fun h => by cases h), hkw2⟩
      have := q.1.2 (q.2.2.2.2 (by have := q.2.2.1.1 h; omega))
      cases this
  · go_wp2_with fail
    go_ret
    refine ⟨false, rfl, iff_of_false (by simp) (fun h => ?_), (fun h => by cases h), (KeepBut.of (by go_grown)).trans hk1⟩
    have h1 : 1 ≤ v.cnt := by rw [cnt_eq]; omega
    have h2 : 1 ≤ v.dep := by rw [dep_eq]; omega
    exact hr ⟨by have := h.1; omega, by have := h.2; omega⟩
theorem each_few {P : Nat} {w0 : World} (hP : w0.heap.size ≤ P) (d : Nat) :
    EachOk (.func (.func 30) #[] #[.pointer (some ⟨P, 0, none⟩)]) P w0 (fun s w => At w P 3 #[.int .i64 (s : Nat)]) Few V.cnt d := by
  induction d with
  | zero => intro v cs w deep s hv; exact hv.elim
  | succ d ih => exact each_few_step hP ih
end Go.Proofs.YtobpidmlgldnmaaGreatDoor

/-
  The program's own answer what is wrong with a value: all that is in it may be; both together; the document's answer.
-/
namespace Go.Proofs.YtobpidmlgldnmaaGreatDoor
open Go.RowKit
set_option maxRecDepth 100000

theorem may_one {d : Nat} {v : V} {cs : List Value} {w : World} (deep : Int) (hv : RepN d w v cs) :
    Calls Tryz.prog 32 #[.agg cs.toArray, .int .i64 deep] w fun e w' => AnsB e (Own v) ∧ Below w.heap.size w w' := by
  obtain ⟨e, rfl⟩ := hv.inv
  have H := hid (fun (w1 : World) (hb : Below w.heap.size w w1) => may_says (hv.later hb))
  obtain ⟨al, af, cl, cf, rfl, _⟩ := hv
  go_enter Tryz.func32, Tryz.ntmps32
  go_wp2_with (go_at_call 33; refine (H.out _ (by go_grown)).mono ?_; rintro e w1 ⟨ha, hb1⟩; obtain ⟨r, rfl, hr1⟩ := ha.bool; have HR1 := hid hr1; clear hr1 ha)
  go_ret
  exact ⟨AnsB.of HR1.out, Below.trans (by go_grown) (hb1.mono (by simp))⟩
theorem thr_may (l : List V) (D s : Nat) : Thr (fun v _ _ => v.Shp) (fun _ => 0) l D s ↔ ShpL l := by
  rw [shpL_iff]; exact Iff.rfl
theorem shpF_map (l : List (ByteArray × V)) : ShpL (l.map (·.2)) ↔ ShpF l := by
  rw [shpL_iff, shpF_iff]
  refine ⟨fun h i q hq => h i _ (by simp [hq]), fun h i x hx => ?_⟩
  rw [List.getElem?_map] at hx
  obtain ⟨y, hy, rfl⟩ := Option.map_eq_some_iff.1 hx
  exact h i y hy
set_option maxHeartbeats 1000000 in
theorem each_may_step {P : Nat} {w0 : World} (hP : w0.heap.size ≤ P) {d : Nat}
    (ih : EachOk (.func (.func 32) #[] #[]) P w0 (fun _ w => P < w.heap.size) (fun v _ _ => v.Shp) (fun _ => 0) d) :
    EachOk (.func (.func 32) #[] #[]) P w0 (fun _ w => P < w.heap.size) (fun v _ _ => v.Shp) (fun _ => 0) (d + 1) := by
  intro v cs w deep s hv hb hA hdd hs3
  have HV := hid hv
  obtain ⟨al, af, cl, cf, rfl, ⟨hs, hl, hf⟩, hL, hF⟩ := hv
  rw [dep_eq] at hdd
  have hsz : P < w.heap.size := hA
  have HLc := hid (fun w1 h1 h2 h4 h5 => contains_l (F := .func (.func 32) #[] #[]) ih hP (fun s w w' h h' => Nat.lt_of_lt_of_le h h'.size) (fun x deep s h _ => h) v.l al cl w1 deep s (w.heap.size + 1) (w.heap.size + 1 + 1) hl hL (fun i x hx => by have := depL_mem _ i x hx; omega) h1 h2 hs3 (by omega) (by omega) h4 h5)
  have HFc := hid (fun w1 B7 h1 h2 h7 h4 h5 h8 => contains_f (F := .func (.func 32) #[] #[]) ih hP (fun s w w' h h' => Nat.lt_of_lt_of_le h h'.size) (fun x deep s h _ => h) v.f af cf w1 deep s (w.heap.size + 1) (w.heap.size + 1 + 1) B7 hf hF (fun i x hx => by have := depF_mem _ i x hx; omega) h1 h2 hs3 (by omega) (by omega) h7 h4 h5 h8)
  clear hL hF hl hf hs ih hA
  go_enter Tryz.func31, Tryz.ntmps31
  go_wp2_with (go_at_call 32; fail)
  go_at_call 32
  refine (may_one deep (HV.out.later (((hb.alloc hb.size _).alloc (by simp; have := hb.size; omega) _).alloc (by simp; have := hb.size; omega) _))).mono ?_
  rintro e w1 ⟨(⟨rfl, hr⟩ | ⟨rfl, hr⟩), hk1⟩
  · have HO := hid hr
    clear hr
    have A0 := At.later (((At.new w _ _ rfl).alloc _).alloc _) hk1
    have A4 := At.later ((At.new (w.alloc _) _ _ (by simp)).alloc _ : At _ (w.heap.size + 1) _ _) hk1
    have A5 := At.later (At.new ((w.alloc _).alloc _) _ _ (by simp) : At _ (w.heap.size + 1 + 1) _ _) hk1
    have hb1 := (KeepBut.of (P := P) hk1).below (((hb.alloc hb.size _).alloc (by simp; have := hb.size; omega) _).alloc (by simp; have := hb.size; omega) _) hP
    have hkw : KeepBut P w w1 := (KeepBut.of (by go_grown)).trans (KeepBut.of hk1)
    clear hk1 hb
    have c0 := A0.cell
    have l0 := A0.lt
    have l1 : P < w1.heap.size := Nat.lt_of_lt_of_le hsz hkw.size
    go_wp2_with (go_at_call 62; fail)
    go_at_call 62
    refine (HLc.out _ (hb1.alloc hb1.size _) (by simp; omega) (A4.alloc _) (A5.alloc _)).mono ?_
    rintro e w2 ⟨r, rfl, hr2, hrs2, hk2⟩
    have A7 := hk2.at (At.new w1 _ _ rfl) (by omega)
    have A02 := hk2.at (A0.alloc _) (by omega)
    have A42 := hk2.at (A4.alloc _) (by omega)
    have A52 := hk2.at (A5.alloc _) (by omega)
    have hb2 := hk2.below (hb1.alloc hb1.size _) hP
    have hkw2 : KeepBut P w w2 := hkw.trans ((KeepBut.of (by go_grown)).trans hk2)
    have l2 : P < w2.heap.size := Nat.lt_of_lt_of_le hsz hkw2.size
    clear hk2 hb1 c0 l0 A0 A4 A5 hkw hrs2
    have c0 := A02.cell
    have l0 := A02.lt
    rw [thr_may] at hr2
    have HQ := hid hr2
    clear hr2
    cases r
    · go_wp2_with (go_at_call 63; fail)
      go_at_call 63
      refine (HFc.out _ w1.heap.size hb2 l2 (by omega) A42 A52 A7).mono ?_
      rintro e w3 ⟨r3, rfl, hr3, hrs3, hk3⟩
      rw [thr_may, shpF_map] at hr3
      have HQ3 := hid hr3
      clear hr3 hrs3
      go_wp2_with fail
      go_ret
      refine ⟨!r3, rfl, ?_, fun _ => Nat.lt_of_lt_of_le hsz (hkw2.trans hk3).size, hkw2.trans hk3⟩
      rw [shp_eq]
      have q := HQ.out.1 (by first | rfl | trivial)
      have q3 := HQ3.out
      cases r3
      · exact iff_of_true rfl ⟨HO.out, q, q3.1 rfl⟩
      · exact iff_of_false (by simp) (fun h => by have := q3.2 h.2.2; cases this)
    · go_wp2_with fail
      go_ret
      refine ⟨false, rfl, iff_of_false (by simp) (fun h => ?_), (fun h => by cases h), hkw2⟩
      have := HQ.out.2 ((shp_eq v).1 h).2.1
      cases this
  · go_wp2_with fail
    go_ret
    exact ⟨false, rfl, iff_of_false (by simp) (fun h => hr ((shp_eq v).1 h).1), (fun h => by cases h), (KeepBut.of (by go_grown)).trans (KeepBut.of hk1)⟩
theorem each_may {P : Nat} {w0 : World} (hP : w0.heap.size ≤ P) (d : Nat) :
    EachOk (.func (.func 32) #[] #[]) P w0 (fun _ w => P < w.heap.size) (fun v _ _ => v.Shp) (fun _ => 0) d := by
  induction d with
  | zero => intro v cs w deep s hv; exact hv.elim
  | succ d ih => exact each_may_step hP ih

/-- What is wrong with a value, by number. -/
noncomputable def faultV (v : V) : Int := by
  classical exact if 300 < v.cnt ∨ 8 < v.dep then 2 else if v.Shp then 0 else 3
theorem fault_many {v : V} (h : 300 < v.cnt ∨ 8 < v.dep) : faultV v = 2 := by unfold faultV; rw [if_pos h]
theorem fault_none {v : V} (h : ¬ (300 < v.cnt ∨ 8 < v.dep)) (h' : v.Shp) : faultV v = 0 := by unfold faultV; rw [if_neg h, if_pos h']
theorem fault_shape {v : V} (h : ¬ (300 < v.cnt ∨ 8 < v.dep)) (h' : ¬ v.Shp) : faultV v = 3 := by unfold faultV; rw [if_neg h, if_neg h']

theorem check_says {d : Nat} {v : V} {cs : List Value} {w : World} (hv : RepN d w v cs) (hc : v.cnt ≤ 1048576) :
    Calls Tryz.prog 22 #[.agg cs.toArray] w fun e w' => e = .returned (errN (faultV v)) ∧ Below w.heap.size w w' := by
  obtain ⟨e, rfl⟩ := hv.inv
  have hdp := dep_le_cnt v
  have H1 := hid (fun w1 hb hA => each_few (P := w.heap.size + 1) (w0 := w) (by omega) (e + 1) v cs w1 1 0 hv hb hA (by omega) (by omega))
  have H2 := hid (fun w1 hb hA => each_may (P := w.heap.size + 1) (w0 := w) (by omega) (e + 1) v cs w1 1 0 hv hb hA (by omega) (by omega))
  obtain ⟨al, af, cl, cf, rfl, _⟩ := hv
  go_enter Tryz.func22, Tryz.ntmps22
  go_wp2_with (go_at_call 31; fail)
  go_at_call 31
  refine (H1.out _ (by go_grown) (by first | exact At.new _ _ _ (by simp) | exact (At.new _ _ _ (by simp)).setOne _)).mono ?_
  rintro e w1 ⟨r, rfl, hr, _, hk⟩
  have A0 := hk.at ((At.new w _ _ rfl).alloc _) (by omega)
  have hb1 := hk.below (show Below w.heap.size w _ by go_grown) (by omega)
  have l1 : w.heap.size + 1 < w1.heap.size := Nat.lt_of_lt_of_le (by simp) hk.size
  have c0 := A0.cell
  have l0 := A0.lt
  clear hk
  have HR := hid hr
  clear hr
  cases r
  · have hf : faultV v = 2 := fault_many (by
      have := HR.out
      by_cases h : 300 < v.cnt ∨ 8 < v.dep
      · exact h
      · have := this.2 ⟨by omega, by omega⟩; cases this)
    have HF := hid hf
    clear hf
    go_wp2_with fail
    go_ret
    exact ⟨by rw [HF.out, errN_pos (by omega)]; rfl, hb1⟩
  · have hn : ¬ (300 < v.cnt ∨ 8 < v.dep) := fun h => by have := HR.out.1 rfl; unfold Few at this; omega
    go_wp2_with (go_at_call 31; fail)
    go_at_call 31
    refine (H2.out _ hb1 l1).mono ?_
    rintro e w2 ⟨r, rfl, hr, _, hk⟩
    have hb2 := hk.below hb1 (by omega)
    clear hk
    have HR2 := hid hr
    clear hr
    cases r
    · have HF := hid (fault_shape hn (fun h => by have := HR2.out.2 h; cases this))
      go_wp2_with fail
      go_ret
      exact ⟨by rw [HF.out, errN_pos (by omega)]; rfl, hb2⟩
    · have HF := hid (fault_none hn (HR2.out.1 rfl))
      go_wp2_with fail
      go_ret
      exact ⟨by rw [HF.out, errN_0]; rfl, hb2⟩
end Go.Proofs.YtobpidmlgldnmaaGreatDoor

/-
  parse.Value, whole.
-/
namespace Go.Proofs.YtobpidmlgldnmaaGreatDoor
open Go.RowKit
set_option maxRecDepth 100000

/-- What reading from a place on makes: the value, an error, where it ends. -/
noncomputable def pV (s : ByteArray) (a : Int) : Rd :=
  if 60000 < s.size ∨ a < 0 ∨ (s.size : Int) < a then (V0 0 0 eB, 1, 0)
  else if (rdV s 8 a.toNat).2.1 ≠ 0 then (V0 0 0 eB, (rdV s 8 a.toNat).2.1, 0)
  else if faultV (rdV s 8 a.toNat).1 ≠ 0 then (V0 0 0 eB, faultV (rdV s 8 a.toNat).1, 0)
  else rdV s 8 a.toNat
/-- What reading leans on. -/
structure Gr (m : Int) (w : World) : Prop where
  rdy : Rdy m w
  syn : IfAt w 1
  rng : IfAt w 2
theorem Gr.below {m : Int} {w w' : World} (h : Gr m w) (hb : Below w.heap.size w w') : Gr m w' := ⟨h.rdy.below hb, h.syn.later hb, h.rng.later hb⟩
theorem IfAt.lt {w : World} {b : Nat} (h : IfAt w b) : b < w.heap.size := by
  obtain ⟨ev, h1, _⟩ := h
  exact World.block_lt_of_cell? w ⟨b, 0, none⟩ h1
theorem var_lt {p : Program} {W : World} {g : Nat} {n : String} {cs : Array Value} (hg : p.globalNamed n = some g) (h : W.var? p n = some cs) : g < W.heap.size := by
  unfold World.var? at h
  rw [hg] at h
  simp only [Option.bind_some] at h
  cases hh : W.heap[g]? with
  | none => rw [hh] at h; cases h
  | some o => exact (Array.getElem?_eq_some_iff.1 hh).1
theorem Gr.env {m : Int} {w : World} (h : Gr m w) {P : Nat} (hP : w.heap.size ≤ P) : Env m P w :=
  ⟨h.rdy, h.syn, h.rng, Nat.lt_of_lt_of_le (var_lt gPow h.rdy.1) hP, Nat.lt_of_lt_of_le (World.block_lt_of_cell? w ⟨_, 0, none⟩ h.rdy.2) hP, Nat.lt_of_lt_of_le h.syn.lt hP, Nat.lt_of_lt_of_le h.rng.lt hP⟩
/-- The answer's block, and a reader's behind it. -/
structure Nest (w a : World) (s : ByteArray) (j : Nat) : Prop where
  below : Below w.heap.size w a
  box : At a w.heap.size 38 (vc 0 0 ⟨#[]⟩)
  at_ : RdAt a (w.heap.size + 1) s j
theorem Nest.new (w : World) (s : ByteArray) (k : Nat) : Nest w ((w.alloc (.cells (vc 0 0 ⟨#[]⟩) 38)).alloc (.cells #[.string s, .int .i64 k] 130)) s k := by
  refine ⟨Below.trans (below_box w _) ((below_box _ _).mono (by simp)), (At.new w _ _ rfl).alloc _, ?_⟩
  have := At.new (w.alloc (.cells (vc 0 0 ⟨#[]⟩) 38)) #[.string s, .int .i64 k] 130 rfl
  rwa [show (w.alloc (.cells (vc 0 0 ⟨#[]⟩) 38)).heap.size = w.heap.size + 1 by simp] at this
theorem Nest.lt1 {w a : World} {s : ByteArray} {j : Nat} (h : Nest w a s j) : w.heap.size + 1 < a.heap.size := At.lt h.at_
theorem Nest.moved {w a b : World} {s : ByteArray} {j i : Nat} (h : Nest w a s j) (m : Moved (w.heap.size + 1) a b s i) : Nest w b s i :=
  ⟨h.below.trans ((m.keep.upTo (by have := h.lt1; omega)).mono (by omega)), m.keep.at h.box (by omega), m.at_⟩
theorem Nest.below' {w a b : World} {s : ByteArray} {j : Nat} (h : Nest w a s j) (hb : Below a.heap.size a b) : Nest w b s j := h.moved ⟨.of hb, At.later h.at_ hb⟩
theorem Nest.fill5 {w a : World} {s : ByteArray} {j : Nat} (h : Nest w a s j) (v0 v1 v2 v3 v4 : Value) {wf : World} (hf : wf = set5 a w.heap.size v0 v1 v2 v3 v4) :
    Below w.heap.size w wf ∧ At wf w.heap.size 38 #[v0, v1, v2, v3, v4] ∧ wf.heap.size = a.heap.size ∧ ∀ k, k ≠ w.heap.size → wf.heap[k]? = a.heap[k]? := by
  subst hf
  exact ⟨below_set5 h.below (Nat.le_refl _) _ _ _ _ _, At.five h.box _ _ _ _ _, set5_size _ _ _ _ _ _ _, fun k hk => set5_other _ _ _ _ _ _ _ hk⟩
theorem Nest.fillZ {w a : World} {s : ByteArray} {j : Nat} (h : Nest w a s j) :
    let wf := ((((a.setCell ⟨w.heap.size, 0, none⟩ (.int .i64 0)).setCell ⟨w.heap.size, 1, none⟩ (.int .i64 0)).setCell ⟨w.heap.size, 2, none⟩ (.string ⟨#[]⟩)).setCell ⟨w.heap.size, 3, none⟩ (.slice none 0 0)).setCell ⟨w.heap.size, 4, none⟩ (.slice none 0 0)
    Below w.heap.size w wf ∧ At wf w.heap.size 38 (vc 0 0 ⟨#[]⟩) :=
  ⟨below_set5 h.below (Nat.le_refl _) _ _ _ _ _, h.box.vc5 0 0 _⟩
end Go.Proofs.YtobpidmlgldnmaaGreatDoor
