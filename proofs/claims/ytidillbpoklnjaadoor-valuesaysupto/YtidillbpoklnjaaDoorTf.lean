/-
  The walks of the law TopFix, for every two numbers.
-/
import Derived.Test.YtidillbpoklnjaaDoorFh
namespace Go.Proofs.YtidillbpoklnjaaDoor
open Go.RowKit
set_option maxRecDepth 100000

theorem txt1250 : txtB 1250 = ⟨#[49, 46, 50, 53]⟩ := by rw [txtB_ok rfl, text_1250]
set_option maxHeartbeats 400000 in
theorem num_err (w : World) :
    Calls Tryd.prog 44 #[.iface 23 (.int .i64 1)] w fun e w' => e = .returned (.int .i64 1) ∧ w' = w := by
  have ha := assertErr
  go_enter Tryd.func44, Tryd.ntmps44
  go_wp2
  go_ret
  exact ⟨rfl, rfl⟩

theorem chain2 {a b c : World} (h1 : Below a.heap.size a b) (h2 : Below b.heap.size b c) : Below a.heap.size a c := h1.trans (h2.mono h1.size)
theorem chain4 {a b c d e : World} (h1 : Below a.heap.size a b) (h2 : Below b.heap.size b c) (h3 : Below c.heap.size c d) (h4 : Below d.heap.size d e) : Below a.heap.size a e := chain2 (chain2 (chain2 h1 h2) h3) h4
theorem err1250 : errN (flt 1250) = .nilIface := rfl
theorem errBad {a : Int} (h : okF a = false) : errN (flt a) = .iface 23 (.int .i64 1) := by rw [flt_bad h]; rfl
theorem errOk {a : Int} (h : okF a = true) : errN (flt a) = .nilIface := by rw [flt_ok h]; rfl

set_option maxHeartbeats 400000 in
theorem topFix_abad (m a b : Int) (w : World) (hr : Rdy m w) (h : okF a = false) :
    Calls Tryd.prog 7 #[.int .i64 a, .int .i64 b] w fun e w' => e = .returned (.bool true) ∧ Below w.heap.size w w' := by
  have e1 := txt1250
  have e2 := err1250
  have e3 := errBad h
  go_enter Tryd.func7, Tryd.ntmps7
  go_wp2_with (go_at_call 13; refine (text_any m _ _ (by assumption)).mono ?_; rintro e w1 ⟨rfl, hb1, hr1⟩)
  go_ret
  exact ⟨rfl, chain2 ‹_› ‹_›⟩

set_option maxHeartbeats 1000000 in
theorem topFix_bbad (m a b : Int) (w : World) (hr : Rdy m w) (ha : okF a = true) (hb : okF b = false) :
    Calls Tryd.prog 7 #[.int .i64 a, .int .i64 b] w fun e w' => e = .returned (.bool true) ∧ Below w.heap.size w w' := by
  have e1 := txt1250
  have e2 := err1250
  have e3 := errOk ha
  have e4 := errBad hb
  have e5 : errN (linE a 1000 0 0 0) = .nilIface := by rw [(lin_one ha).1]; rfl
  have e6 := (lin_one ha).2
  go_enter Tryd.func7, Tryd.ntmps7
  go_wp2_with (first
    | (go_at_call 13; refine (text_any m _ _ (by assumption)).mono ?_; rintro e w1 ⟨rfl, hb1, hr1⟩)
    | (go_at_call 20; refine (parse_text m _ _ (by assumption) ha).mono ?_; rintro e w1 ⟨rfl, hb1, hr1⟩)
    | (go_at_call 16; refine (mul_rdy m _ _ _ (by assumption)).mono ?_; rintro e w1 ⟨rfl, hb1, hr1⟩)
    | (go_at_call 14; refine (check_any _ _).mono ?_; rintro e w1 ⟨rfl, rfl⟩))
  go_ret
  exact ⟨rfl, chain4 ‹_› ‹_› ‹_› ‹_›⟩

theorem chain6 {a b c d e f g : World} (h1 : Below a.heap.size a b) (h2 : Below b.heap.size b c) (h3 : Below c.heap.size c d) (h4 : Below d.heap.size d e) (h5 : Below e.heap.size e f) (h6 : Below f.heap.size f g) : Below a.heap.size a g := chain2 (chain4 h1 h2 h3 h4) (chain2 h5 h6)

set_option maxHeartbeats 1000000 in
theorem topFix_pbad (m a b : Int) (w : World) (hr : Rdy m w) (ha : okF a = true) (hb : okF b = true) (ho : okF (a * b / 1000) = false) :
    Calls Tryd.prog 7 #[.int .i64 a, .int .i64 b] w fun e w' => e = .returned (.bool true) ∧ Below w.heap.size w w' := by
  have e1 := txt1250
  have e2 := err1250
  have e3 := errOk ha
  have e4 := errOk hb
  have e5 : errN (linE a 1000 0 0 0) = .nilIface := by rw [(lin_one ha).1]; rfl
  have e6 := (lin_one ha).2
  have q := lin_bad (a := a) (x := b) (c := 0) (y := 0) (e := 0) (by rw [prod_eq]; simp [ho])
  have e7 : errN (linE a b 0 0 0) = .iface 23 (.int .i64 1) := by rw [q.1]; rfl
  have e8 : errN (linE b a 0 0 0) = .iface 23 (.int .i64 1) := by rw [(lin_comm a b).1]; exact e7
  clear q ho
  go_enter Tryd.func7, Tryd.ntmps7
  go_wp2_with (first
    | (go_at_call 13; refine (text_any m _ _ (by assumption)).mono ?_; rintro e w1 ⟨rfl, hb1, hr1⟩)
    | (go_at_call 20; refine (parse_text m _ _ (by assumption) ha).mono ?_; rintro e w1 ⟨rfl, hb1, hr1⟩)
    | (go_at_call 16; refine (mul_rdy m _ _ _ (by assumption)).mono ?_; rintro e w1 ⟨rfl, hb1, hr1⟩)
    | (go_at_call 14; refine (check_any _ _).mono ?_; rintro e w1 ⟨rfl, rfl⟩)
    | (go_at_call 44; refine (num_err _).mono ?_; rintro e w1 ⟨rfl, rfl⟩))
  go_ret
  exact ⟨rfl, chain6 ‹_› ‹_› ‹_› ‹_› ‹_› ‹_›⟩

set_option maxHeartbeats 1000000 in
theorem topFix_ok (m a b : Int) (w : World) (hr : Rdy m w) (ha : okF a = true) (hb : okF b = true) (ho : okF (a * b / 1000) = true) :
    Calls Tryd.prog 7 #[.int .i64 a, .int .i64 b] w fun e w' => e = .returned (.bool true) ∧ Below w.heap.size w w' := by
  have e1 := txt1250
  have e2 := err1250
  have e3 := errOk ha
  have e4 := errOk hb
  have e5 : errN (linE a 1000 0 0 0) = .nilIface := by rw [(lin_one ha).1]; rfl
  have e6 := (lin_one ha).2
  have q := lin_ok (a := a) (x := b) (c := 0) (y := 0) (e := 0) ha hb rfl rfl rfl (by rw [prod_eq]; exact ho)
  rw [prod_eq] at q
  have e7 : errN (linE a b 0 0 0) = .nilIface := by rw [q.1]; rfl
  have e8 : errN (linE b a 0 0 0) = .nilIface := by rw [(lin_comm a b).1]; exact e7
  have e9 := q.2
  have e10 : linN b a 0 0 0 = a * b / 1000 := by rw [(lin_comm a b).2]; exact e9
  have a1 := okF_iff.1 ha
  have b1 := okF_iff.1 hb
  have m1 := mul_in a1.1 a1.2 b1.1 b1.2
  clear q ho
  go_enter Tryd.func7, Tryd.ntmps7
  go_wp2_with (first
    | (go_at_call 13; refine (text_any m _ _ (by assumption)).mono ?_; rintro e w1 ⟨rfl, hb1, hr1⟩)
    | (go_at_call 20; refine (parse_text m _ _ (by assumption) ha).mono ?_; rintro e w1 ⟨rfl, hb1, hr1⟩)
    | (go_at_call 16; refine (mul_rdy m _ _ _ (by assumption)).mono ?_; rintro e w1 ⟨rfl, hb1, hr1⟩)
    | (go_at_call 14; refine (check_any _ _).mono ?_; rintro e w1 ⟨rfl, rfl⟩))
  all_goals go_ret
  all_goals exact ⟨ret_bool (by first | rfl | (rw [Bool.eq_iff_iff]; simp; omega)), chain6 ‹_› ‹_› ‹_› ‹_› ‹_› ‹_›⟩

theorem topFix_any (m a b : Int) (w : World) (hr : Rdy m w) :
    Calls Tryd.prog 7 #[.int .i64 a, .int .i64 b] w fun e w' => e = .returned (.bool true) ∧ Below w.heap.size w w' := by
  cases ha : okF a
  · exact topFix_abad m a b w hr ha
  cases hb : okF b
  · exact topFix_bbad m a b w hr ha hb
  cases ho : okF (a * b / 1000)
  · exact topFix_pbad m a b w hr ha hb ho
  · exact topFix_ok m a b w hr ha hb ho
end Go.Proofs.YtidillbpoklnjaaDoor
