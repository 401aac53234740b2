/-
  The walks of the law FixSays, for every two numbers and every text.
-/
import Derived.Test.YtidillbpoklnjaaDoorTf
import Derived.Test.YtidillbpoklnjaaDoorRf
namespace Go.Proofs.YtidillbpoklnjaaDoor
open Go.RowKit
set_option maxRecDepth 100000

theorem fixText_rdy (m n : Int) (w : World) (hr : Rdy m w) (h : okF n = true) :
    Calls Tryd.prog 15 #[.int .i64 n] w fun e w' => e = .returned (.string ⟨(fixTxt n).toArray⟩) ∧ Below w.heap.size w w' ∧ Rdy m w' := by
  refine (fixText_any n w h).mono ?_
  rintro e w' ⟨rfl, hb⟩
  exact ⟨rfl, hb, hr.below hb⟩
theorem parseE_nn (l : List UInt8) : 0 ≤ parseE l := by unfold parseE; split <;> (try split) <;> omega
theorem addE_01 (a b : Int) : 0 ≤ addE a b ∧ addE a b ≤ 1 := by unfold addE; split <;> omega
theorem okm1500 : okF (-1500) = true := rfl
theorem txtm1500 : txtB (-1500) = ⟨#[45, 49, 46, 53]⟩ := by rw [txtB_ok rfl, text_m1500]
theorem fltm1500 : flt (-1500) = 0 := rfl

set_option maxHeartbeats 400000 in
theorem fixes_any (m : Int) (w : World) (hr : Rdy m w) :
    Calls Tryd.prog 11 #[] w fun e w' => e = .returned (.bool true) ∧ Below w.heap.size w w' ∧ Rdy m w' := by
  have hp : ∀ w, Rdy m w → Calls Tryd.prog 20 #[.string ⟨#[45, 49, 46, 53]⟩] w fun e w' => e = .returned (.tuple #[.int .i64 (-1500), .nilIface]) ∧ Below w.heap.size w w' ∧ Rdy m w' := fun w hr => by
    have := parse_text m (-1500) w hr rfl; rwa [txtm1500] at this
  have e1 := txtm1500
  have e2 : errN (flt (-1500)) = .nilIface := rfl
  go_enter Tryd.func11, Tryd.ntmps11
  go_wp2_with (first
    | (go_at_call 20; refine (hp _ (by assumption)).mono ?_; rintro e w1 ⟨rfl, hb1, hr1⟩)
    | (go_at_call 13; refine (text_any m _ _ (by assumption)).mono ?_; rintro e w1 ⟨rfl, hb1, hr1⟩)
    | (go_at_call 8; refine (same_nil _ _).mono ?_; rintro e w1 ⟨rfl, rfl⟩))
  go_ret
  exact ⟨rfl, chain2 ‹_› ‹_›, ‹_›⟩

set_option maxHeartbeats 400000 in
theorem fixSays_long (m a b : Int) (s : ByteArray) (w : World) (hr : Rdy m w) (hs : ¬ s.size ≤ 100) (hx : s.size ≤ maxLen) :
    Calls Tryd.prog 4 #[.int .i64 a, .int .i64 b, .string s] w fun e w' => e = .returned (.bool true) ∧ Below w.heap.size w w' := by
  unfold maxLen at hx
  have hs' : (100 : Int) < s.size := by omega
  go_enter Tryd.func4, Tryd.ntmps4
  go_wp2_with (go_at_call 11; refine (fixes_any m _ (by assumption)).mono ?_; rintro e w1 ⟨rfl, hb1, hr1⟩)
  go_ret
  exact ⟨rfl, ‹_›⟩

theorem chain5 {a b c d e f : World} (h1 : Below a.heap.size a b) (h2 : Below b.heap.size b c) (h3 : Below c.heap.size c d) (h4 : Below d.heap.size d e) (h5 : Below e.heap.size e f) : Below a.heap.size a f := chain2 (chain4 h1 h2 h3 h4) h5
set_option maxHeartbeats 2000000 in
theorem fixSays_ok (m a b : Int) (s : ByteArray) (w : World) (hr : Rdy m w) (hs : s.size ≤ 100) (ha : okF a = true) :
    Calls Tryd.prog 4 #[.int .i64 a, .int .i64 b, .string s] w fun e w' => e = .returned (.bool true) ∧ Below w.heap.size w w' := by
  have hs' : ¬ (100 : Int) < s.size := by omega
  have e1 := flt_ok ha
  have e2 := txtB_ok ha
  have n1 := linE_01 a b 0 0 0
  have n2 := addE_01 a b
  have n3 := parseE_nn s.data.toList
  go_enter Tryd.func4, Tryd.ntmps4
  go_wp2_with (first
    | (go_at_call 11; refine (fixes_any m _ (by assumption)).mono ?_; rintro e w1 ⟨rfl, hb1, hr1⟩)
    | (go_at_call 12; refine (fault_any _ _).mono ?_; rintro e w1 ⟨rfl, rfl⟩)
    | (go_at_call 13; refine (text_any m _ _ (by assumption)).mono ?_; rintro e w1 ⟨rfl, hb1, hr1⟩)
    | (go_at_call 14; refine (check_any _ _).mono ?_; rintro e w1 ⟨rfl, rfl⟩)
    | (go_at_call 8; refine (same_any _ _ _ (by omega)).mono ?_; rintro e w1 ⟨rfl, rfl⟩)
    | (go_at_call 15; refine (fixText_rdy m _ _ (by assumption) ha).mono ?_; rintro e w1 ⟨rfl, hb1, hr1⟩)
    | (go_at_call 16; refine (mul_rdy m _ _ _ (by assumption)).mono ?_; rintro e w1 ⟨rfl, hb1, hr1⟩)
    | (go_at_call 17; refine (rmul_any _ _ _).mono ?_; rintro e w1 ⟨rfl, rfl⟩)
    | (go_at_call 18; refine (add_rdy m _ _ _ (by assumption)).mono ?_; rintro e w1 ⟨rfl, hb1, hr1⟩)
    | (go_at_call 19; refine (radd_any _ _ _).mono ?_; rintro e w1 ⟨rfl, rfl⟩)
    | (go_at_call 20; refine (parse_rdy m _ _ (by assumption) (by omega)).mono ?_; rintro e w1 ⟨rfl, hb1, hr1⟩)
    | (go_at_call 21; refine (readFix_any _ _ hs).mono ?_; rintro e w1 ⟨rfl, rfl⟩))
  all_goals go_ret
  all_goals exact ⟨rfl, chain6 ‹_› ‹_› ‹_› ‹_› ‹_› ‹_›⟩
set_option maxHeartbeats 2000000 in
theorem fixSays_bad (m a b : Int) (s : ByteArray) (w : World) (hr : Rdy m w) (hs : s.size ≤ 100) (ha : okF a = false) :
    Calls Tryd.prog 4 #[.int .i64 a, .int .i64 b, .string s] w fun e w' => e = .returned (.bool true) ∧ Below w.heap.size w w' := by
  have hs' : ¬ (100 : Int) < s.size := by omega
  have e1 := flt_bad ha
  have e2 := txtB_bad ha
  have n1 := linE_01 a b 0 0 0
  have n2 := addE_01 a b
  have n3 := parseE_nn s.data.toList
  go_enter Tryd.func4, Tryd.ntmps4
  go_wp2_with (first
    | (go_at_call 11; refine (fixes_any m _ (by assumption)).mono ?_; rintro e w1 ⟨rfl, hb1, hr1⟩)
    | (go_at_call 12; refine (fault_any _ _).mono ?_; rintro e w1 ⟨rfl, rfl⟩)
    | (go_at_call 13; refine (text_any m _ _ (by assumption)).mono ?_; rintro e w1 ⟨rfl, hb1, hr1⟩)
    | (go_at_call 14; refine (check_any _ _).mono ?_; rintro e w1 ⟨rfl, rfl⟩)
    | (go_at_call 8; refine (same_any _ _ _ (by omega)).mono ?_; rintro e w1 ⟨rfl, rfl⟩)
    | (go_at_call 16; refine (mul_rdy m _ _ _ (by assumption)).mono ?_; rintro e w1 ⟨rfl, hb1, hr1⟩)
    | (go_at_call 17; refine (rmul_any _ _ _).mono ?_; rintro e w1 ⟨rfl, rfl⟩)
    | (go_at_call 18; refine (add_rdy m _ _ _ (by assumption)).mono ?_; rintro e w1 ⟨rfl, hb1, hr1⟩)
    | (go_at_call 19; refine (radd_any _ _ _).mono ?_; rintro e w1 ⟨rfl, rfl⟩)
    | (go_at_call 20; refine (parse_rdy m _ _ (by assumption) (by omega)).mono ?_; rintro e w1 ⟨rfl, hb1, hr1⟩)
    | (go_at_call 21; refine (readFix_any _ _ hs).mono ?_; rintro e w1 ⟨rfl, rfl⟩))
  all_goals go_ret
  all_goals exact ⟨rfl, chain5 ‹_› ‹_› ‹_› ‹_› ‹_›⟩

theorem fixSays_any (m a b : Int) (s : ByteArray) (w : World) (hr : Rdy m w) (hx : s.size ≤ maxLen) :
    Calls Tryd.prog 4 #[.int .i64 a, .int .i64 b, .string s] w fun e w' => e = .returned (.bool true) ∧ Below w.heap.size w w' := by
  by_cases hs : s.size ≤ 100
  · cases ha : okF a
    · exact fixSays_bad m a b s w hr hs ha
    · exact fixSays_ok m a b s w hr hs ha
  · exact fixSays_long m a b s w hr hs hx
end Go.Proofs.YtidillbpoklnjaaDoor
