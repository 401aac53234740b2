/-
  The program's own answer whether a value may be, whatever those in it are.
-/
import Derived.Test.YtfkjoppehbmomaaGreatDoorVi
namespace Go.Proofs.YtfkjoppehbmomaaGreatDoor
open Go.RowKit
set_option maxRecDepth 100000

set_option maxHeartbeats 4000000 in
theorem may_says {d : Nat} {v : V} {cs : List Value} {w : World} (hv : RepN d w v cs) :
    Calls Tryz.prog 45 #[.agg cs.toArray] w fun e w' => AnsB e (Own v) ∧ Below w.heap.size w w' := by
  obtain ⟨e, rfl⟩ := hv.inv
  have HV := hid hv
  obtain ⟨al, af, cl, cf, rfl, ⟨hs, hl, hf⟩, hL, hF⟩ := hv
  have HN := hid (fun (w1 : World) (hb : Below w.heap.size w w1) => namesMay_says v.f af cf w1 hf (fun i q hq => by
    obtain ⟨b, off, c, e, hb1, hs1, hn, hc, hr⟩ := hF i q hq
    exact ⟨b, off, c, e, Nat.lt_of_lt_of_le hb1 hb.size, hs1, (hb.cell (p := ⟨b, off + i * 6, none⟩) hb1).trans hn, hc.later hb1 hb, hr.later hb⟩))
  clear hL hF hl hf HV
  generalize hll : v.l.length = ll at *
  generalize hlf : v.f.length = lf at *
  have HLL := hid hll
  have HLF := hid hlf
  clear hll hlf
  go_enter Tryz.func45, Tryz.ntmps45
  go_wp2_with fail
  go_region
  by_cases hse : v.s.toList = []
  all_goals
    first
      | have hsz : v.s.size = 0 := (toList_nil _).1 hse
      | have hsz : ¬ v.s.size = 0 := fun h => hse ((toList_nil _).2 h)
    by_cases hk : v.k = 0
    · go_wp2_with fail
      all_goals go_ret
      all_goals refine ⟨AnsB.of ?_, by go_grown⟩
      all_goals rw [own0 hk, HLL.out, HLF.out]
      all_goals first | (simp only [Bool.false_eq_true, false_iff]; omega) | (simp only [beq_iff_eq]; omega) | (simp only [true_iff]; omega)
    by_cases hk1 : v.k = 1
    · go_wp2_with fail
      all_goals go_ret
      all_goals refine ⟨AnsB.of ?_, by go_grown⟩
      all_goals rw [own1 hk1, HLL.out, HLF.out]
      all_goals first | (simp only [Bool.false_eq_true, false_iff]; omega) | (simp only [beq_iff_eq]; omega) | (simp only [true_iff]; omega)
    by_cases hk2 : v.k = 2
    · cases hok : okF v.n
      all_goals
        first
          | have hfl := flt_ok hok
          | have hfl := flt_bad hok
        have HOK := hid hok
        clear hok
        go_wp2_with (go_at_call 83; refine (check_any v.n _).mono ?_; rw [hfl]; (first | rw [errN_0] | (rw [errN_1]; unfold errV)); rintro e w1 ⟨rfl, rfl⟩)
        all_goals go_ret
        all_goals refine ⟨AnsB.of ?_, by go_grown⟩
        all_goals rw [own2 hk2, HOK.out, HLL.out, HLF.out]
        all_goals simp only [Bool.false_eq_true, false_and, true_and]
        all_goals first | (simp only [beq_iff_eq]; omega) | omega | (simp only [false_iff]; omega) | (simp only [true_iff]; omega) | (simp only [iff_self]; done)
    by_cases hk3 : v.k = 3
    · go_wp2_with fail
      all_goals go_ret
      all_goals refine ⟨AnsB.of ?_, by go_grown⟩
      all_goals rw [own3 hk3, HLL.out, HLF.out]
      all_goals first | (simp only [Bool.false_eq_true, false_iff]; omega) | (simp only [beq_iff_eq]; omega) | (simp only [true_iff]; omega)
    by_cases hk4 : v.k = 4
    · cases hok : nmOk v.s
      all_goals
        have HOK := hid hok
        clear hok
        go_wp2_with (go_at_call 68; refine (vNameMay v.s _ hs).mono ?_; rw [HOK.out]; rintro e w1 ⟨rfl, rfl⟩)
        all_goals go_ret
        all_goals refine ⟨AnsB.of ?_, by go_grown⟩
        all_goals rw [own4 hk4, HOK.out, HLL.out, HLF.out]
        all_goals simp only [Bool.false_eq_true, false_and, true_and, and_false]
        all_goals first | (simp only [beq_iff_eq]; omega) | omega | (simp only [false_iff]; omega) | (simp only [true_iff]; omega) | (simp only [iff_self]; done)
    by_cases hk5 : v.k = 5
    · go_wp2_with fail
      all_goals go_ret
      all_goals refine ⟨AnsB.of ?_, by go_grown⟩
      all_goals rw [own5 hk5, HLF.out]
      all_goals first | (simp only [Bool.false_eq_true, false_iff]; omega) | (simp only [beq_iff_eq]; omega) | (simp only [true_iff]; omega)
    by_cases hk6 : v.k = 6
    · go_wp2_with (go_at_call 84; refine (HN.out _ (by go_grown)).mono ?_; rintro e w1 ⟨r, rfl, hr, hkb⟩; have HRR := hid hr; clear hr; have x1 := fun o => hkb.cell (p := ⟨w.heap.size + 1, o, none⟩) (by simp); have x2 := fun o => hkb.frozen (p := ⟨w.heap.size + 1, o, none⟩) (by simp); cases r)
      all_goals go_ret
      all_goals
        have hbw : Below w.heap.size w w1 := Below.trans (show Below w.heap.size w _ by go_grown) (hkb.mono (by show _ ≤ (World.alloc (World.alloc w _) _).heap.size; simp; omega))
        refine ⟨AnsB.of ?_, by first | exact hbw | exact hbw.setCell (by simp) _⟩
        rw [own6 hk6, HLL.out]
        have hq := HRR.out
        simp only [Bool.false_eq_true, false_iff, true_iff] at hq
        simp only [hq, and_true, and_false]
        first | (simp only [Bool.false_eq_true, false_iff]; omega) | (simp only [beq_iff_eq]; omega) | (simp only [true_iff]; omega) | (simp only [Bool.false_eq_true, iff_self]; done)
    by_cases hk7 : v.k = 7
    · go_wp2_with fail
      all_goals go_ret
      all_goals refine ⟨AnsB.of ?_, by go_grown⟩
      all_goals rw [own7 hk7, HLL.out, HLF.out]
      all_goals first | (simp only [Bool.false_eq_true, false_iff]; omega) | (simp only [beq_iff_eq]; omega) | (simp only [true_iff]; omega)
    go_wp2_with fail
    go_ret
    exact ⟨.no (own8 (by omega)), by go_grown⟩
end Go.Proofs.YtfkjoppehbmomaaGreatDoor
