/-
  Contracts: is one of some numbers none; products and sums, of the program and of the document's answer.
-/
import Derived.Test.YtidillbpoklnjaaDoorFa
import Derived.Deep.QuietTactic
import Derived.BigQuiet
namespace Go.Proofs.YtidillbpoklnjaaDoor
open Go.RowKit
set_option maxRecDepth 100000

def anyBad (zs : List Int) : Bool := zs.any fun z => !okF z
theorem anyBad_take_succ (zs : List Int) (k : Nat) (h : k < zs.length) : anyBad (zs.take (k + 1)) = (anyBad (zs.take k) || !okF zs[k]) := by
  unfold anyBad; rw [List.take_succ_eq_append_getElem h, List.any_append]; simp only [List.any_cons, List.any_nil, Bool.or_false]

set_option maxHeartbeats 400000 in
theorem bad1_ok (n : Int) (w : World) (h : okF n = true) :
    Calls Tryd.prog 80 #[.int .i64 n] w fun e w' => e = .returned (.bool false) ∧ w' = w := by
  have hc : ∀ w, Calls Tryd.prog 14 #[.int .i64 n] w fun e w' => e = .returned .nilIface ∧ w' = w := fun w => by have := check_any n w; rwa [flt_ok h, errN_0] at this
  go_enter Tryd.func80, Tryd.ntmps80
  go_wp2_with (go_at_call 14; refine (hc _).mono ?_; rintro e w' ⟨rfl, rfl⟩)
  go_ret
  exact ⟨rfl, rfl⟩
set_option maxHeartbeats 400000 in
theorem bad1_bad (n : Int) (w : World) (h : okF n = false) :
    Calls Tryd.prog 80 #[.int .i64 n] w fun e w' => e = .returned (.bool true) ∧ w' = w := by
  have hc : ∀ w, Calls Tryd.prog 14 #[.int .i64 n] w fun e w' => e = .returned (.iface 23 (.int .i64 1)) ∧ w' = w := fun w => by have := check_any n w; rwa [flt_bad h, errN_1] at this
  go_enter Tryd.func80, Tryd.ntmps80
  go_wp2_with (go_at_call 14; refine (hc _).mono ?_; rintro e w' ⟨rfl, rfl⟩)
  go_ret
  exact ⟨rfl, rfl⟩
theorem bad1_any (n : Int) (w : World) :
    Calls Tryd.prog 80 #[.int .i64 n] w fun e w' => e = .returned (.bool (!okF n)) ∧ w' = w := by
  cases h : okF n
  · exact bad1_bad n w h
  · exact bad1_ok n w h

set_option maxHeartbeats 400000 in
theorem indexBad_any (b off c : Nat) (zs : List Int) (w : World) (hn : zs.length ≤ 1000)
    (hc : ∀ k, k < zs.length → w.cell? ⟨b, off + k, none⟩ = some (.int .i64 (zs.getD k 0))) :
    Calls Tryd.prog 103 #[.slice (some ⟨b, off, none⟩) zs.length c, .func (.func 80) #[] #[]] w fun e w' => (∃ k : Int, e = .returned (.int .i64 k) ∧ (decide (0 ≤ k) = anyBad zs)) ∧ w' = w := by
  go_enter Tryd.func103, Tryd.ntmps103
  go_wp2
  go_loop [8] (fun i => ∃ k : Nat, k ≤ zs.length ∧ i = .int .i64 k ∧ anyBad (zs.take k) = false) (fun i => zs.length - (intOf i).toNat)
  case atStart => exact ⟨0, Nat.zero_le _, rfl, rfl⟩
  case round =>
    obtain ⟨k, hk, rfl, hno⟩ := hrel
    by_cases hlt : k < zs.length
    · have hcell := hc k hlt
      have HT := hid (anyBad_take_succ zs k hlt)
      have HN := hid hno
      have hz : zs.getD k 0 = zs[k] := by simp [List.getD, hlt]
      rw [hz] at hcell
      clear hc hno hz
      cases hb : okF zs[k]
      · have hcall := fun w => bad1_bad zs[k] w hb
        go_wp2_with (go_at_call 80; refine (hcall _).mono ?_; rintro e w' ⟨rfl, rfl⟩)
        go_ret
        refine ⟨⟨k, rfl, ?_⟩, rfl⟩
        have h1 : anyBad (zs.take (k + 1)) = true := by rw [HT.out, hb]; simp
        have h2 : anyBad zs = true := by
          unfold anyBad at *; rw [List.any_eq_true] at *
          obtain ⟨x, hx, hy⟩ := h1
          exact ⟨x, List.mem_of_mem_take hx, hy⟩
        rw [h2]; simp
      · have hcall := fun w => bad1_ok zs[k] w hb
        go_wp2_with (go_at_call 80; refine (hcall _).mono ?_; rintro e w' ⟨rfl, rfl⟩)
        go_round
        case rel => exact ⟨k + 1, by omega, by go_num, by rw [HT.out, HN.out, hb]; rfl⟩
        case measure => simp [intOf]; omega
    · have HN := hid hno
      clear hc hno
      go_wp2
      go_ret
      refine ⟨⟨-1, rfl, ?_⟩, rfl⟩
      have := HN.out
      rw [List.take_of_length_le (by omega)] at this
      rw [this]; rfl

set_option maxHeartbeats 400000 in
theorem containsBad_any (b off c n : Nat) (zs : List Int) (w : World) (hl : zs.length = n) (hn : zs.length ≤ 1000)
    (hc : ∀ k, k < zs.length → w.cell? ⟨b, off + k, none⟩ = some (.int .i64 (zs.getD k 0))) :
    Calls Tryd.prog 79 #[.slice (some ⟨b, off, none⟩) n c, .func (.func 80) #[] #[]] w fun e w' => e = .returned (.bool (anyBad zs)) ∧ w' = w := by
  subst hl
  have hi := indexBad_any b off c zs w hn hc
  clear hc
  go_enter Tryd.func79, Tryd.ntmps79
  go_wp2_with (go_at_call 103; refine hi.mono ?_; rintro e w' ⟨⟨k, rfl, hk⟩, rfl⟩)
  go_ret
  exact ⟨ret_bool (by rw [← hk]), rfl⟩

set_option maxHeartbeats 400000 in
theorem someNone_any (b off c n : Nat) (zs : List Int) (w : World) (hl : zs.length = n) (hn : zs.length ≤ 1000)
    (hc : ∀ k, k < zs.length → w.cell? ⟨b, off + k, none⟩ = some (.int .i64 (zs.getD k 0))) :
    Calls Tryd.prog 48 #[.slice (some ⟨b, off, none⟩) n c] w fun e w' => e = .returned (.bool (anyBad zs)) ∧ w' = w := by
  have hi := containsBad_any b off c n zs w hl hn hc
  clear hc
  go_enter Tryd.func48, Tryd.ntmps48
  go_wp2_with (go_at_call 79; refine hi.mono ?_; rintro e w' ⟨rfl, rfl⟩)
  go_ret
  exact ⟨rfl, rfl⟩

/-- The same at a list that was just laid. -/
theorem someNone_new (zs : List Int) (n : Nat) (cs : Array Value) (w : World) (hl : zs.length = n) (hn : zs.length ≤ 1000) (hcs : cs = (zs.map (Value.int .i64)).toArray) :
    Calls Tryd.prog 48 #[.slice (some ⟨w.heap.size, 0, none⟩) n n] (w.alloc (.cells cs 3)) fun e w' => e = .returned (.bool (anyBad zs)) ∧ w' = w.alloc (.cells cs 3) := by
  refine someNone_any w.heap.size 0 n n zs _ hl hn fun k hk => ?_
  rw [World.cell?_alloc_new, hcs]
  simp [List.getD, hk]

theorem anyBad_2 (a b : Int) : anyBad [a, b] = (!okF a || !okF b) := by simp [anyBad]

set_option maxHeartbeats 400000 in
theorem mul_any (a b : Int) (w : World) :
    Calls Tryd.prog 16 #[.int .i64 a, .int .i64 b] w fun e w' => e = .returned (.tuple #[.int .i64 (linN a b 0 0 0), errN (linE a b 0 0 0)]) ∧ Below w.heap.size w w' := by
  cases hb : anyBad [a, b]
  · have hn := someNone_new [a, b] 2 #[.int .i64 a, .int .i64 b] w rfl (by simp) rfl
    rw [hb] at hn
    rw [anyBad_2] at hb
    have ha : okF a = true := by revert hb; cases okF a <;> simp
    have hb : okF b = true := by revert hb; cases okF b <;> simp
    have ht := fun w => together_any a b 0 0 0 w ha hb rfl rfl rfl
    go_enter Tryd.func16, Tryd.ntmps16
    go_wp2_with (first
      | (go_at_call 48; refine hn.mono ?_; rintro e w' ⟨rfl, rfl⟩)
      | (go_at_call 49; refine (ht _).mono ?_; rintro e w' ⟨rfl, rfl⟩))
    go_ret2
    exact ⟨rfl, (Below.refl _ _).alloc (Nat.le_refl _) _⟩
  · have hn := someNone_new [a, b] 2 #[.int .i64 a, .int .i64 b] w rfl (by simp) rfl
    rw [hb] at hn
    rw [anyBad_2] at hb
    obtain ⟨q1, q2⟩ := lin_bad (a := a) (x := b) (c := 0) (y := 0) (e := 0) (by revert hb; cases okF a <;> cases okF b <;> simp)
    rw [q1, q2, errN_1]
    go_enter Tryd.func16, Tryd.ntmps16
    go_wp2_with (go_at_call 48; refine hn.mono ?_; rintro e w' ⟨rfl, rfl⟩)
    go_ret2
    exact ⟨rfl, (Below.refl _ _).alloc (Nat.le_refl _) _⟩

theorem prod_eq (a b : Int) : (a * b + 0 * 0) / 1000 + 0 = a * b / 1000 := by simp

set_option maxHeartbeats 400000 in
theorem rmul_any (a b : Int) (w : World) :
    Calls Tryd.prog 17 #[.int .i64 a, .int .i64 b] w fun e w' => e = .returned (.tuple #[.int .i64 (linN a b 0 0 0), .int .i64 (linE a b 0 0 0)]) ∧ w' = w := by
  have fa := flt_01 a
  have fb := flt_01 b
  by_cases hs : 0 < flt a + flt b
  · obtain ⟨q1, q2⟩ := lin_bad (a := a) (x := b) (c := 0) (y := 0) (e := 0) (by cases h1 : okF a <;> cases h2 : okF b <;> simp_all [flt])
    rw [q1, q2]
    clear q1 q2
    go_enter Tryd.func17, Tryd.ntmps17
    go_wp2_with (go_at_call 12; refine (fault_any _ _).mono ?_; rintro r w' ⟨rfl, rfl⟩)
    go_ret2
    exact ⟨rfl, rfl⟩
  · have ha := flt_zero.1 (show flt a = 0 by omega)
    have hb := flt_zero.1 (show flt b = 0 by omega)
    have a1 := okF_iff.1 ha
    have b1 := okF_iff.1 hb
    have m1 := mul_in a1.1 a1.2 b1.1 b1.2
    have ff := flt_01 (a * b / 1000)
    have pe := prod_eq a b
    by_cases ho : 0 < flt (a * b / 1000)
    · have ho' : okF (a * b / 1000) = false := by
        cases h : okF (a * b / 1000)
        · rfl
        · rw [flt_ok h] at ho; omega
      obtain ⟨q1, q2⟩ := lin_bad (a := a) (x := b) (c := 0) (y := 0) (e := 0) (by rw [pe]; simp [ho'])
      rw [q1, q2]
      clear q1 q2 ho' ha hb pe
      go_enter Tryd.func17, Tryd.ntmps17
      go_wp2_with (first
        | (go_at_call 12; refine (fault_any _ _).mono ?_; rintro r w' ⟨rfl, rfl⟩)
        | (go_at_call 50; refine (floor_any _ _ (by omega) (by omega)).mono ?_; rintro r w' ⟨rfl, rfl⟩))
      go_ret2
      exact ⟨rfl, rfl⟩
    · obtain ⟨q1, q2⟩ := lin_ok (c := 0) (y := 0) (e := 0) ha hb rfl rfl rfl (by rw [pe]; exact flt_zero.1 (by omega))
      rw [q1, q2, pe]
      clear q1 q2 ha hb pe
      go_enter Tryd.func17, Tryd.ntmps17
      go_wp2_with (first
        | (go_at_call 12; refine (fault_any _ _).mono ?_; rintro r w' ⟨rfl, rfl⟩)
        | (go_at_call 50; refine (floor_any _ _ (by omega) (by omega)).mono ?_; rintro r w' ⟨rfl, rfl⟩))
      go_ret2
      exact ⟨rfl, rfl⟩

set_option maxHeartbeats 400000 in
theorem add_any (a b : Int) (w : World) :
    Calls Tryd.prog 18 #[.int .i64 a, .int .i64 b] w fun e w' => e = .returned (.tuple #[.int .i64 (addN a b), errN (addE a b)]) ∧ Below w.heap.size w w' := by
  cases hb : anyBad [a, b]
  · have hn := someNone_new [a, b] 2 #[.int .i64 a, .int .i64 b] w rfl (by simp) rfl
    rw [hb] at hn
    rw [anyBad_2] at hb
    have ha : okF a = true := by revert hb; cases okF a <;> simp
    have hb : okF b = true := by revert hb; cases okF b <;> simp
    have a1 := okF_iff.1 ha
    have b1 := okF_iff.1 hb
    cases ho : okF (a + b)
    · obtain ⟨q1, q2⟩ := add_bad (a := a) (b := b) (by simp [ho])
      rw [q1, q2, errN_1]
      have o1 := okF_not.1 ho
      clear ha hb ho q1 q2
      go_enter Tryd.func18, Tryd.ntmps18
      go_wp2_with (first
        | (go_at_call 48; refine hn.mono ?_; rintro e w' ⟨rfl, rfl⟩)
        | (go_at_call 51; refine (number_bad _ _ (by omega)).mono ?_; rintro r w' ⟨rfl, rfl⟩))
      go_ret2
      exact ⟨rfl, (Below.refl _ _).alloc (Nat.le_refl _) _⟩
    · obtain ⟨q1, q2⟩ := add_ok ha hb ho
      rw [q1, q2, errN_0]
      have o1 := okF_iff.1 ho
      clear ha hb ho q1 q2
      go_enter Tryd.func18, Tryd.ntmps18
      go_wp2_with (first
        | (go_at_call 48; refine hn.mono ?_; rintro e w' ⟨rfl, rfl⟩)
        | (go_at_call 51; refine (number_ok _ _ (by omega) (by omega)).mono ?_; rintro r w' ⟨rfl, rfl⟩))
      go_ret2
      exact ⟨rfl, (Below.refl _ _).alloc (Nat.le_refl _) _⟩
  · have hn := someNone_new [a, b] 2 #[.int .i64 a, .int .i64 b] w rfl (by simp) rfl
    rw [hb] at hn
    rw [anyBad_2] at hb
    obtain ⟨q1, q2⟩ := add_bad (a := a) (b := b) (by revert hb; cases okF a <;> cases okF b <;> simp)
    rw [q1, q2, errN_1]
    go_enter Tryd.func18, Tryd.ntmps18
    go_wp2_with (go_at_call 48; refine hn.mono ?_; rintro e w' ⟨rfl, rfl⟩)
    go_ret2
    exact ⟨rfl, (Below.refl _ _).alloc (Nat.le_refl _) _⟩

set_option maxHeartbeats 400000 in
theorem radd_any (a b : Int) (w : World) :
    Calls Tryd.prog 19 #[.int .i64 a, .int .i64 b] w fun e w' => e = .returned (.tuple #[.int .i64 (addN a b), .int .i64 (addE a b)]) ∧ w' = w := by
  have fa := flt_01 a
  have fb := flt_01 b
  by_cases hs : 0 < flt a + flt b
  · obtain ⟨q1, q2⟩ := add_bad (a := a) (b := b) (by cases h1 : okF a <;> cases h2 : okF b <;> simp_all [flt])
    rw [q1, q2]
    clear q1 q2
    go_enter Tryd.func19, Tryd.ntmps19
    go_wp2_with (go_at_call 12; refine (fault_any _ _).mono ?_; rintro r w' ⟨rfl, rfl⟩)
    go_ret2
    exact ⟨rfl, rfl⟩
  · have ha := flt_zero.1 (show flt a = 0 by omega)
    have hb := flt_zero.1 (show flt b = 0 by omega)
    have a1 := okF_iff.1 ha
    have b1 := okF_iff.1 hb
    have ff := flt_01 (a + b)
    by_cases ho : 0 < flt (a + b)
    · have ho' : okF (a + b) = false := by
        cases h : okF (a + b)
        · rfl
        · rw [flt_ok h] at ho; omega
      obtain ⟨q1, q2⟩ := add_bad (a := a) (b := b) (by simp [ho'])
      rw [q1, q2]
      clear q1 q2 ho' ha hb
      go_enter Tryd.func19, Tryd.ntmps19
      go_wp2_with (go_at_call 12; refine (fault_any _ _).mono ?_; rintro r w' ⟨rfl, rfl⟩)
      go_ret2
      exact ⟨rfl, rfl⟩
    · obtain ⟨q1, q2⟩ := add_ok ha hb (flt_zero.1 (by omega))
      rw [q1, q2]
      clear q1 q2 ha hb
      go_enter Tryd.func19, Tryd.ntmps19
      go_wp2_with (go_at_call 12; refine (fault_any _ _).mono ?_; rintro r w' ⟨rfl, rfl⟩)
      go_ret2
      exact ⟨rfl, rfl⟩
end Go.Proofs.YtidillbpoklnjaaDoor
