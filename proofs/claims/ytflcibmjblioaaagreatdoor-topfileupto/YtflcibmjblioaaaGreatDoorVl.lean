/-
  Joined: Vj, Vk, Vl.
-/
import Derived.Test.YtflcibmjblioaaaGreatDoorVi
import Derived.Laws.EntriesVeiled

/-
  The program's own answer whether a value may be, whatever those in it are.
-/
namespace Go.Proofs.YtflcibmjblioaaaGreatDoor
open Go.RowKit
set_option maxRecDepth 100000

set_option maxHeartbeats 4000000 in
theorem may_says {d : Nat} {v : V} {cs : List Value} {w : World} (hv : RepN d w v cs) :
    Calls Tryz.prog 99 #[.agg cs.toArray] w fun e w' => AnsB e (Own v) ∧ Below w.heap.size w w' := by
  obtain ⟨e, rfl⟩ := hv.inv
  have HV := hid hv
  obtain ⟨al, af, cl, cf, rfl, ⟨hs, hl, hf⟩, hL, hF⟩ := hv
  have HN := hid (fun (w1 : World) (hb : Below w.heap.size w w1) => namesMay_says v.f af cf w1 hf (fun i q hq => by
    obtain ⟨b, off, c, e, hb1, hs1, hn, hc, hr⟩ := hF i q hq
    exact ⟨b, off, c, e, Nat.lt_of_lt_of_le hb1 hb.size, hs1, (hb.cell (p := ⟨b, off + i * 6, none⟩) hb1).trans hn, hc.later hb1 hb, hr.later hb⟩))
  clear hL hF hl hf HV
  generalize hll : v.l.length = ll at *
  generalize hlf : v.f.length = lf at *
  have HLL := hid hll
  have HLF := hid hlf
  clear hll hlf
  go_enter Tryz.func99, Tryz.ntmps99
  go_wp2_with fail
  go_region
  by_cases hse : v.s.toList = []
  all_goals
    first
      | have hsz : v.s.size = 0 := (toList_nil _).1 hse
      | have hsz : ¬ v.s.size = 0 := fun h => hse ((toList_nil _).2 h)
    by_cases hk : v.k = 0
    · go_wp2_with fail
      all_goals go_ret
      all_goals refine ⟨AnsB.of ?_, by go_grown⟩
      all_goals rw [own0 hk, HLL.out, HLF.out]
      all_goals first | (simp only [Bool.false_eq_true, false_iff]; omega) | (simp only [beq_iff_eq]; omega) | (simp only [true_iff]; omega)
    by_cases hk1 : v.k = 1
    · go_wp2_with fail
      all_goals go_ret
      all_goals refine ⟨AnsB.of ?_, by go_grown⟩
      all_goals rw [own1 hk1, HLL.out, HLF.out]
      all_goals first | (simp only [Bool.false_eq_true, false_iff]; omega) | (simp only [beq_iff_eq]; omega) | (simp only [true_iff]; omega)
    by_cases hk2 : v.k = 2
    · cases hok : okF v.n
      all_goals
        first
          | have hfl := flt_ok hok
          | have hfl := flt_bad hok
        have HOK := hid hok
        clear hok
        go_wp2_with (go_at_call 156; refine (check_any v.n _).mono ?_; rw [hfl]; (first | rw [errN_0] | (rw [errN_1]; unfold errV)); rintro e w1 ⟨rfl, rfl⟩)
        all_goals go_ret
        all_goals refine ⟨AnsB.of ?_, by go_grown⟩
        all_goals rw [own2 hk2, HOK.out, HLL.out, HLF.out]
        all_goals simp only [Bool.false_eq_true, false_and, true_and]
        all_goals first | (simp only [beq_iff_eq]; omega) | omega | (simp only [false_iff]; omega) | (simp only [true_iff]; omega) | (simp only [iff_self]; done)
    by_cases hk3 : v.k = 3
    · go_wp2_with fail
      all_goals go_ret
      all_goals refine ⟨AnsB.of ?_, by go_grown⟩
      all_goals rw [own3 hk3, HLL.out, HLF.out]
      all_goals first | (simp only [Bool.false_eq_true, false_iff]; omega) | (simp only [beq_iff_eq]; omega) | (simp only [true_iff]; omega)
    by_cases hk4 : v.k = 4
    · cases hok : nmOk v.s
      all_goals
        have HOK := hid hok
        clear hok
        go_wp2_with (go_at_call 141; refine (vNameMay v.s _ hs).mono ?_; rw [HOK.out]; rintro e w1 ⟨rfl, rfl⟩)
        all_goals go_ret
        all_goals refine ⟨AnsB.of ?_, by go_grown⟩
        all_goals rw [own4 hk4, HOK.out, HLL.out, HLF.out]
        all_goals simp only [Bool.false_eq_true, false_and, true_and, and_false]
        all_goals first | (simp only [beq_iff_eq]; omega) | omega | (simp only [false_iff]; omega) | (simp only [true_iff]; omega) | (simp only [iff_self]; done)
    by_cases hk5 : v.k = 5
    · go_wp2_with fail
      all_goals go_ret
      all_goals refine ⟨AnsB.of ?_, by go_grown⟩
      all_goals rw [own5 hk5, HLF.out]
      all_goals first | (simp only [Bool.false_eq_true, false_iff]; omega) | (simp only [beq_iff_eq]; omega) | (simp only [true_iff]; omega)
    by_cases hk6 : v.k = 6
    · go_wp2_with (go_at_call 157; refine (HN.out _ (by go_grown)).mono ?_; rintro e w1 ⟨r, rfl, hr, hkb⟩; have HRR := hid hr; clear hr; have x1 := fun o => hkb.cell (p := ⟨w.heap.size + 1, o, none⟩) (by simp); have x2 := fun o => hkb.frozen (p := ⟨w.heap.size + 1, o, none⟩) (by simp); cases r)
      all_goals go_ret
      all_goals
        have hbw : Below w.heap.size w w1 := Below.trans (show Below w.heap.size w _ by go_grown) (hkb.mono (by show _ ≤ (World.alloc (World.alloc w _) _).heap.size; simp; omega))
        refine ⟨AnsB.of ?_, by first | exact hbw | exact hbw.setCell (by simp) _⟩
        rw [own6 hk6, HLL.out]
        have hq := HRR.out
        simp only [Bool.false_eq_true, false_iff, true_iff] at hq
        simp only [hq, and_true, and_false]
        first | (simp only [Bool.false_eq_true, false_iff]; omega) | (simp only [beq_iff_eq]; omega) | (simp only [true_iff]; omega) | (simp only [Bool.false_eq_true, iff_self]; done)
    by_cases hk7 : v.k = 7
    · go_wp2_with fail
      all_goals go_ret
      all_goals refine ⟨AnsB.of ?_, by go_grown⟩
      all_goals rw [own7 hk7, HLL.out, HLF.out]
      all_goals first | (simp only [Bool.false_eq_true, false_iff]; omega) | (simp only [beq_iff_eq]; omega) | (simp only [true_iff]; omega)
    go_wp2_with fail
    go_ret
    exact ⟨.no (own8 (by omega)), by go_grown⟩
end Go.Proofs.YtflcibmjblioaaaGreatDoor

/-
  The program's own answer what is wrong with a value: there are too many in it, or it is too deep.
-/
namespace Go.Proofs.YtflcibmjblioaaaGreatDoor
open Go.RowKit
set_option maxRecDepth 100000

theorem few_one (c0 c1 c2 c3 c4 : Value) (deep s : Nat) (w : World) (P : Nat) (hP : At w P 3 #[.int .i64 s]) (hs : s ≤ 300) (hd : deep ≤ 2000000) :
    Calls Tryz.prog 96 #[.agg #[c0, c1, c2, c3, c4], .int .i64 deep, .pointer (some ⟨P, 0, none⟩)] w fun e w' => AnsB e (s + 1 ≤ 300 ∧ deep ≤ 8) ∧ At w' P 3 #[.int .i64 (s + 1)] ∧ KeepBut P w w' := by
  have c := hP.cell 0
  have l := hP.lt
  have fr := hP.free 0
  simp at c
  go_enter Tryz.func96, Tryz.ntmps96
  by_cases h1 : (s : Int) + 1 ≤ 300
  · by_cases h2 : (deep : Int) ≤ 8
    · go_wp2_with fail
      go_ret
      exact ⟨.yes (by omega), (hP.setOne _).alloc _, ((KeepBut.refl _ _).setCell _ _).trans (KeepBut.of ((Below.refl _ _).alloc (Nat.le_refl _) _))⟩
    · go_wp2_with fail
      go_ret
      exact ⟨.no (by omega), (hP.setOne _).alloc _, ((KeepBut.refl _ _).setCell _ _).trans (KeepBut.of ((Below.refl _ _).alloc (Nat.le_refl _) _))⟩
  · go_wp2_with fail
    go_ret
    exact ⟨.no (by omega), (hP.setOne _).alloc _, ((KeepBut.refl _ _).setCell _ _).trans (KeepBut.of ((Below.refl _ _).alloc (Nat.le_refl _) _))⟩

/-- Few enough, and not too deep. -/
def Few (v : V) (deep s : Nat) : Prop := s + v.cnt ≤ 300 ∧ deep + v.dep ≤ 9
theorem sumN_cnt : ∀ l : List V, sumN V.cnt l = cntL l
  | [] => by simp [sumN, cntL]
  | x :: l => by have := sumN_cnt l; unfold sumN at *; rw [List.map_cons, List.sum_cons, cntL, this]
theorem cntF_map : ∀ l : List (ByteArray × V), cntL (l.map (·.2)) = cntF l
  | [] => by simp [cntL, cntF]
  | x :: l => by rw [List.map_cons, cntL, cntF_cons, cntF_map l]
theorem depF_map : ∀ l : List (ByteArray × V), depL (l.map (·.2)) = depF l
  | [] => by simp [depL, depF]
  | x :: l => by rw [List.map_cons, depL, depF_cons, depF_map l]
theorem thr_few : ∀ (l : List V) (D s : Nat), D ≤ 9 → s ≤ 300 → (Thr Few V.cnt l D s ↔ s + cntL l ≤ 300 ∧ D + depL l ≤ 9)
  | [], D, s, hD, hs => by simp [Thr, cntL, depL, hD, hs]
  | x :: l, D, s, hD, hs => by
    have e : Thr Few V.cnt (x :: l) D s ↔ Few x D s ∧ Thr Few V.cnt l D (s + x.cnt) := by
      refine ⟨fun h => ⟨by simpa [sumN] using h 0 x rfl, fun i y hy => ?_⟩, fun h i y hy => ?_⟩
      · have := h (i + 1) y (by simpa using hy)
        rw [List.take_succ_cons, sumN_cnt, cntL] at this
        rw [sumN_cnt, Nat.add_assoc]; exact this
      · cases i with
        | zero => simp at hy; subst hy; simpa [sumN] using h.1
        | succ i =>
          have := h.2 i y (by simpa using hy)
          rw [List.take_succ_cons, sumN_cnt, cntL, ← Nat.add_assoc]
          rw [sumN_cnt] at this
          exact this
    rw [e, cntL, depL]
    by_cases hx : s + x.cnt ≤ 300
    · rw [thr_few l D (s + x.cnt) hD hx]
      unfold Few
      omega
    · refine iff_of_false (fun h => hx h.1.1) (fun h => by omega)
theorem depL_mem : ∀ (l : List V) (i : Nat) (x : V), l[i]? = some x → x.dep ≤ depL l
  | [], i, x, h => by simp at h
  | y :: l, 0, x, h => by simp at h; subst h; rw [depL]; omega
  | y :: l, i + 1, x, h => by have := depL_mem l i x (by simpa using h); rw [depL]; omega
theorem depF_mem (l : List (ByteArray × V)) (i : Nat) (q : ByteArray × V) (h : l[i]? = some q) : q.2.dep ≤ depF l := by
  rw [← depF_map]; exact depL_mem _ i _ (by simp [h])

set_option maxHeartbeats 1000000 in
theorem each_few_step {P : Nat} {w0 : World} (hP : w0.heap.size ≤ P) {d : Nat}
    (ih : EachOk (.func (.func 96) #[] #[.pointer (some ⟨P, 0, none⟩)]) P w0 (fun s w => At w P 3 #[.int .i64 (s : Nat)]) Few V.cnt d) :
    EachOk (.func (.func 96) #[] #[.pointer (some ⟨P, 0, none⟩)]) P w0 (fun s w => At w P 3 #[.int .i64 (s : Nat)]) Few V.cnt (d + 1) := by
  intro v cs w deep s hv hb hA hdd hs3
  obtain ⟨al, af, cl, cf, rfl, ⟨hs, hl, hf⟩, hL, hF⟩ := hv
  rw [dep_eq] at hdd
  have hsz := hA.lt
  have HLc := hid (fun w1 s1 h1 h2 h3 h4 h5 => contains_l (F := .func (.func 96) #[] #[.pointer (some ⟨P, 0, none⟩)]) ih hP (fun s w w' h h' => At.later h h') (fun x deep s _ h => h.1) v.l al cl w1 deep s1 (w.heap.size + 1) (w.heap.size + 1 + 1) hl hL (fun i x hx => by have := depL_mem _ i x hx; omega) h1 h2 h3 (by omega) (by omega) h4 h5)
  have HFc := hid (fun w1 s1 B7 h1 h2 h3 h7 h4 h5 h8 => contains_f (F := .func (.func 96) #[] #[.pointer (some ⟨P, 0, none⟩)]) ih hP (fun s w w' h h' => At.later h h') (fun x deep s _ h => h.1) v.f af cf w1 deep s1 (w.heap.size + 1) (w.heap.size + 1 + 1) B7 hf hF (fun i x hx => by have := depF_mem _ i x hx; omega) h1 h2 h3 (by omega) (by omega) h7 h4 h5 h8)
  clear hL hF hl hf hs ih
  go_enter Tryz.func97, Tryz.ntmps97
  go_wp2_with (go_at_call 96; fail)
  go_at_call 96
  refine (few_one _ _ _ _ _ deep s _ P (hA.later (by go_grown)) hs3 (by omega)).mono ?_
  rintro e w1 ⟨(⟨rfl, hr⟩ | ⟨rfl, hr⟩), hA1, hk1⟩
  · have A0 := hk1.at (((At.new w _ _ rfl).alloc _).alloc _) (by omega)
    have A4 := hk1.at ((At.new (w.alloc _) _ _ (by simp)).alloc _ : At _ (w.heap.size + 1) _ _) (by omega)
    have A5 := hk1.at (At.new ((w.alloc _).alloc _) _ _ (by simp) : At _ (w.heap.size + 1 + 1) _ _) (by omega)
    have hb1 := hk1.below (((hb.alloc hb.size _).alloc (by simp; have := hb.size; omega) _).alloc (by simp; have := hb.size; omega) _) hP
    have hkw : KeepBut P w w1 := (KeepBut.of (by go_grown)).trans hk1
    clear hk1 hb
    have c0 := A0.cell
    have l0 := A0.lt
    have l1 := hA1.lt
    go_wp2_with (go_at_call 153; fail)
    go_at_call 153
    refine (HLc.out _ (s + 1) (hb1.alloc hb1.size _) (by simpa using hA1.alloc _) hr.1 (A4.alloc _) (A5.alloc _)).mono ?_
    rintro e w2 ⟨r, rfl, hr2, hrs2, hk2⟩
    have A7 := hk2.at (At.new w1 _ _ rfl) (by omega)
    have A02 := hk2.at (A0.alloc _) (by omega)
    have A42 := hk2.at (A4.alloc _) (by omega)
    have A52 := hk2.at (A5.alloc _) (by omega)
    have hb2 := hk2.below (hb1.alloc hb1.size _) hP
    have hkw2 : KeepBut P w w2 := hkw.trans ((KeepBut.of (by go_grown)).trans hk2)
    clear hk2 hb1 c0 l0 A0 A4 A5 hkw
    have c0 := A02.cell
    have l0 := A02.lt
    have hfd : Few v deep s ↔ s + (1 + cntL v.l + cntF v.f) ≤ 300 ∧ deep + (1 + max (depL v.l) (depF v.f)) ≤ 9 := by unfold Few; rw [cnt_eq, dep_eq]
    have T1 := thr_few v.l (deep + 1) (s + 1) (by omega) (by omega)
    have HQ := hid (And.intro hr2 (And.intro hrs2 (And.intro hfd T1)))
    clear hr2 hrs2 hfd T1
    cases r
    · have HS2 := hid (HQ.out.2.1 rfl)
      go_wp2_with (go_at_call 154; fail)
      go_at_call 154
      refine (HFc.out _ (s + 1 + sumN V.cnt v.l) w1.heap.size hb2 HS2.out.1 HS2.out.2 (by omega) A42 A52 A7).mono ?_
      rintro e w3 ⟨r3, rfl, hr3, hrs3, hk3⟩
      have T2 := thr_few (v.f.map (·.2)) (deep + 1) (s + 1 + sumN V.cnt v.l) (by omega) HS2.out.2
      have HQ3 := hid (And.intro hr3 (And.intro hrs3 T2))
      clear hr3 hrs3 T2
      go_wp2_with fail
      go_ret
      have q := HQ.out
      have q3 := HQ3.out
      rw [sumN_cnt, cntF_map, depF_map] at q3
      have f1 := q.2.2.2.1 (q.1.1 (by first | rfl | trivial))
      refine ⟨!r3, rfl, ?_, fun h => ?_, hkw2.trans hk3⟩
      · rw [q.2.2.1]
        have e3 := q3.1.trans q3.2.2
        cases r3
        · have := e3.1 rfl
          exact iff_of_true rfl (by omega)
        · refine iff_of_false (by simp) (fun h => ?_)
          have := e3.2 (by omega)
          cases this
      · have h3 : r3 = false := by simpa using h
        have := (q3.2.1 h3).1
        rw [sumN_cnt, cntF_map] at this
        rw [cnt_eq, show s + (1 + cntL v.l + cntF v.f) = s + 1 + cntL v.l + cntF v.f by omega]
        exact this
    · go_wp2_with fail
      go_ret
      have q := HQ.out
      refine ⟨false, rfl, iff_of_false (by simp) (fun h => ?_), (fun h => by cases h), hkw2⟩
      have := q.1.2 (q.2.2.2.2 (by have := q.2.2.1.1 h; omega))
      cases this
  · go_wp2_with fail
    go_ret
    refine ⟨false, rfl, iff_of_false (by simp) (fun h => ?_), (fun h => by cases h), (KeepBut.of (by go_grown)).trans hk1⟩
    have h1 : 1 ≤ v.cnt := by rw [cnt_eq]; omega
    have h2 : 1 ≤ v.dep := by rw [dep_eq]; omega
    exact hr ⟨by have := h.1; omega, by have := h.2; omega⟩
theorem each_few {P : Nat} {w0 : World} (hP : w0.heap.size ≤ P) (d : Nat) :
    EachOk (.func (.func 96) #[] #[.pointer (some ⟨P, 0, none⟩)]) P w0 (fun s w => At w P 3 #[.int .i64 (s : Nat)]) Few V.cnt d := by
  induction d with
  | zero => intro v cs w deep s hv; exact hv.elim
  | succ d ih => exact each_few_step hP ih
end Go.Proofs.YtflcibmjblioaaaGreatDoor

/-
  The program's own answer what is wrong with a value: all that is in it may be; both together; the document's answer.
-/
namespace Go.Proofs.YtflcibmjblioaaaGreatDoor
open Go.RowKit
set_option maxRecDepth 100000

theorem may_one {d : Nat} {v : V} {cs : List Value} {w : World} (deep : Int) (hv : RepN d w v cs) :
    Calls Tryz.prog 98 #[.agg cs.toArray, .int .i64 deep] w fun e w' => AnsB e (Own v) ∧ Below w.heap.size w w' := by
  obtain ⟨e, rfl⟩ := hv.inv
  have H := hid (fun (w1 : World) (hb : Below w.heap.size w w1) => may_says (hv.later hb))
  obtain ⟨al, af, cl, cf, rfl, _⟩ := hv
  go_enter Tryz.func98, Tryz.ntmps98
  go_wp2_with (go_at_call 99; refine (H.out _ (by go_grown)).mono ?_; rintro e w1 ⟨ha, hb1⟩; obtain ⟨r, rfl, hr1⟩ := ha.bool; have HR1 := hid hr1; clear hr1 ha)
  go_ret
  exact ⟨AnsB.of HR1.out, Below.trans (by go_grown) (hb1.mono (by simp))⟩
theorem thr_may (l : List V) (D s : Nat) : Thr (fun v _ _ => v.Shp) (fun _ => 0) l D s ↔ ShpL l := by
  rw [shpL_iff]; exact Iff.rfl
theorem shpF_map (l : List (ByteArray × V)) : ShpL (l.map (·.2)) ↔ ShpF l := by
  rw [shpL_iff, shpF_iff]
  refine ⟨fun h i q hq => h i _ (by simp [hq]), fun h i x hx => ?_⟩
  rw [List.getElem?_map] at hx
  obtain ⟨y, hy, rfl⟩ := Option.map_eq_some_iff.1 hx
  exact h i y hy
set_option maxHeartbeats 1000000 in
theorem each_may_step {P : Nat} {w0 : World} (hP : w0.heap.size ≤ P) {d : Nat}
    (ih : EachOk (.func (.func 98) #[] #[]) P w0 (fun _ w => P < w.heap.size) (fun v _ _ => v.Shp) (fun _ => 0) d) :
    EachOk (.func (.func 98) #[] #[]) P w0 (fun _ w => P < w.heap.size) (fun v _ _ => v.Shp) (fun _ => 0) (d + 1) := by
  intro v cs w deep s hv hb hA hdd hs3
  have HV := hid hv
  obtain ⟨al, af, cl, cf, rfl, ⟨hs, hl, hf⟩, hL, hF⟩ := hv
  rw [dep_eq] at hdd
  have hsz : P < w.heap.size := hA
  have HLc := hid (fun w1 h1 h2 h4 h5 => contains_l (F := .func (.func 98) #[] #[]) ih hP (fun s w w' h h' => Nat.lt_of_lt_of_le h h'.size) (fun x deep s h _ => h) v.l al cl w1 deep s (w.heap.size + 1) (w.heap.size + 1 + 1) hl hL (fun i x hx => by have := depL_mem _ i x hx; omega) h1 h2 hs3 (by omega) (by omega) h4 h5)
  have HFc := hid (fun w1 B7 h1 h2 h7 h4 h5 h8 => contains_f (F := .func (.func 98) #[] #[]) ih hP (fun s w w' h h' => Nat.lt_of_lt_of_le h h'.size) (fun x deep s h _ => h) v.f af cf w1 deep s (w.heap.size + 1) (w.heap.size + 1 + 1) B7 hf hF (fun i x hx => by have := depF_mem _ i x hx; omega) h1 h2 hs3 (by omega) (by omega) h7 h4 h5 h8)
  clear hL hF hl hf hs ih hA
  go_enter Tryz.func97, Tryz.ntmps97
  go_wp2_with (go_at_call 98; fail)
  go_at_call 98
  refine (may_one deep (HV.out.later (((hb.alloc hb.size _).alloc (by simp; have := hb.size; omega) _).alloc (by simp; have := hb.size; omega) _))).mono ?_
  rintro e w1 ⟨(⟨rfl, hr⟩ | ⟨rfl, hr⟩), hk1⟩
  · have HO := hid hr
    clear hr
    have A0 := At.later (((At.new w _ _ rfl).alloc _).alloc _) hk1
    have A4 := At.later ((At.new (w.alloc _) _ _ (by simp)).alloc _ : At _ (w.heap.size + 1) _ _) hk1
    have A5 := At.later (At.new ((w.alloc _).alloc _) _ _ (by simp) : At _ (w.heap.size + 1 + 1) _ _) hk1
    have hb1 := (KeepBut.of (P := P) hk1).below (((hb.alloc hb.size _).alloc (by simp; have := hb.size; omega) _).alloc (by simp; have := hb.size; omega) _) hP
    have hkw : KeepBut P w w1 := (KeepBut.of (by go_grown)).trans (KeepBut.of hk1)
    clear hk1 hb
    have c0 := A0.cell
    have l0 := A0.lt
    have l1 : P < w1.heap.size := Nat.lt_of_lt_of_le hsz hkw.size
    go_wp2_with (go_at_call 153; fail)
    go_at_call 153
    refine (HLc.out _ (hb1.alloc hb1.size _) (by simp; omega) (A4.alloc _) (A5.alloc _)).mono ?_
    rintro e w2 ⟨r, rfl, hr2, hrs2, hk2⟩
    have A7 := hk2.at (At.new w1 _ _ rfl) (by omega)
    have A02 := hk2.at (A0.alloc _) (by omega)
    have A42 := hk2.at (A4.alloc _) (by omega)
    have A52 := hk2.at (A5.alloc _) (by omega)
    have hb2 := hk2.below (hb1.alloc hb1.size _) hP
    have hkw2 : KeepBut P w w2 := hkw.trans ((KeepBut.of (by go_grown)).trans hk2)
    have l2 : P < w2.heap.size := Nat.lt_of_lt_of_le hsz hkw2.size
    clear hk2 hb1 c0 l0 A0 A4 A5 hkw hrs2
    have c0 := A02.cell
    have l0 := A02.lt
    rw [thr_may] at hr2
    have HQ := hid hr2
    clear hr2
    cases r
    · go_wp2_with (go_at_call 154; fail)
      go_at_call 154
      refine (HFc.out _ w1.heap.size hb2 l2 (by omega) A42 A52 A7).mono ?_
      rintro e w3 ⟨r3, rfl, hr3, hrs3, hk3⟩
      rw [thr_may, shpF_map] at hr3
      have HQ3 := hid hr3
      clear hr3 hrs3
      go_wp2_with fail
      go_ret
      refine ⟨!r3, rfl, ?_, fun _ => Nat.lt_of_lt_of_le hsz (hkw2.trans hk3).size, hkw2.trans hk3⟩
      rw [shp_eq]
      have q := HQ.out.1 (by first | rfl | trivial)
      have q3 := HQ3.out
      cases r3
      · exact iff_of_true rfl ⟨HO.out, q, q3.1 rfl⟩
      · exact iff_of_false (by simp) (fun h => by have := q3.2 h.2.2; cases this)
    · go_wp2_with fail
      go_ret
      refine ⟨false, rfl, iff_of_false (by simp) (fun h => ?_), (fun h => by cases h), hkw2⟩
      have := HQ.out.2 ((shp_eq v).1 h).2.1
      cases this
  · go_wp2_with fail
    go_ret
    exact ⟨false, rfl, iff_of_false (by simp) (fun h => hr ((shp_eq v).1 h).1), (fun h => by cases h), (KeepBut.of (by go_grown)).trans (KeepBut.of hk1)⟩
theorem each_may {P : Nat} {w0 : World} (hP : w0.heap.size ≤ P) (d : Nat) :
    EachOk (.func (.func 98) #[] #[]) P w0 (fun _ w => P < w.heap.size) (fun v _ _ => v.Shp) (fun _ => 0) d := by
  induction d with
  | zero => intro v cs w deep s hv; exact hv.elim
  | succ d ih => exact each_may_step hP ih

/-- What is wrong with a value, by number. -/
noncomputable def faultV (v : V) : Int := by
  classical exact if 300 < v.cnt ∨ 8 < v.dep then 2 else if v.Shp then 0 else 3
theorem fault_many {v : V} (h : 300 < v.cnt ∨ 8 < v.dep) : faultV v = 2 := by unfold faultV; rw [if_pos h]
theorem fault_none {v : V} (h : ¬ (300 < v.cnt ∨ 8 < v.dep)) (h' : v.Shp) : faultV v = 0 := by unfold faultV; rw [if_neg h, if_pos h']
theorem fault_shape {v : V} (h : ¬ (300 < v.cnt ∨ 8 < v.dep)) (h' : ¬ v.Shp) : faultV v = 3 := by unfold faultV; rw [if_neg h, if_neg h']

theorem check_says {d : Nat} {v : V} {cs : List Value} {w : World} (hv : RepN d w v cs) (hc : v.cnt ≤ 1048576) :
    Calls Tryz.prog 56 #[.agg cs.toArray] w fun e w' => e = .returned (errN (faultV v)) ∧ Below w.heap.size w w' := by
  obtain ⟨e, rfl⟩ := hv.inv
  have hdp := dep_le_cnt v
  have H1 := hid (fun w1 hb hA => each_few (P := w.heap.size + 1) (w0 := w) (by omega) (e + 1) v cs w1 1 0 hv hb hA (by omega) (by omega))
  have H2 := hid (fun w1 hb hA => each_may (P := w.heap.size + 1) (w0 := w) (by omega) (e + 1) v cs w1 1 0 hv hb hA (by omega) (by omega))
  obtain ⟨al, af, cl, cf, rfl, _⟩ := hv
  go_enter Tryz.func56, Tryz.ntmps56
  go_wp2_with (go_at_call 97; fail)
  go_at_call 97
  refine (H1.out _ (by go_grown) (by first | exact At.new _ _ _ (by simp) | exact (At.new _ _ _ (by simp)).setOne _)).mono ?_
  rintro e w1 ⟨r, rfl, hr, _, hk⟩
  have A0 := hk.at ((At.new w _ _ rfl).alloc _) (by omega)
  have hb1 := hk.below (show Below w.heap.size w _ by go_grown) (by omega)
  have l1 : w.heap.size + 1 < w1.heap.size := Nat.lt_of_lt_of_le (by simp) hk.size
  have c0 := A0.cell
  have l0 := A0.lt
  clear hk
  have HR := hid hr
  clear hr
  cases r
  · have hf : faultV v = 2 := fault_many (by
      have := HR.out
      by_cases h : 300 < v.cnt ∨ 8 < v.dep
      · exact h
      · have := this.2 ⟨by omega, by omega⟩; cases this)
    have HF := hid hf
    clear hf
    go_wp2_with fail
    go_ret
    exact ⟨by rw [HF.out, errN_pos (by omega)]; rfl, hb1⟩
  · have hn : ¬ (300 < v.cnt ∨ 8 < v.dep) := fun h => by have := HR.out.1 rfl; unfold Few at this; omega
    go_wp2_with (go_at_call 97; fail)
    go_at_call 97
    refine (H2.out _ hb1 l1).mono ?_
    rintro e w2 ⟨r, rfl, hr, _, hk⟩
    have hb2 := hk.below hb1 (by omega)
    clear hk
    have HR2 := hid hr
    clear hr
    cases r
    · have HF := hid (fault_shape hn (fun h => by have := HR2.out.2 h; cases this))
      go_wp2_with fail
      go_ret
      exact ⟨by rw [HF.out, errN_pos (by omega)]; rfl, hb2⟩
    · have HF := hid (fault_none hn (HR2.out.1 rfl))
      go_wp2_with fail
      go_ret
      exact ⟨by rw [HF.out, errN_0]; rfl, hb2⟩
end Go.Proofs.YtflcibmjblioaaaGreatDoor
