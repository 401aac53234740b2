/-
  Contracts of texts and of reading, with what later calls need: the table of powers, and the word that a search asks for, still stand.
-/
import Derived.Test.YtidillbpoklnjaaDoorFd
import Derived.Test.YtidillbpoklnjaaDoorFg
import Derived.Test.YtidillbpoklnjaaDoorPq
import Derived.Lib.SmallJoins
namespace Go.Proofs.YtidillbpoklnjaaDoor
open Go.RowKit
set_option maxRecDepth 100000

theorem gPow : Tryd.prog.globalNamed "internal/strconv.uint64pow10" = some 1 := by kernel_rfl
/-- What the calls lean on: the table of powers of ten, and a number in the variable that a search asks. -/
def Rdy (m : Int) (w : World) : Prop := Tab w ∧ w.cell? ⟨0, 0, none⟩ = some (.int .i64 m)
theorem Rdy.below {m : Int} {w w' : World} (h : Rdy m w) (hb : Below w.heap.size w w') : Rdy m w' :=
  ⟨Joins.tab_stays gPow h.1 hb (Nat.le_refl _), cell_later hb h.2⟩
theorem bel_drewN (w : World) (n : Nat) : Below w.heap.size w (w.drewN n) := below_drewN (Below.refl _ _) n

def txtB (n : Int) : ByteArray := ⟨(if okF n then fixTxt n else []).toArray⟩
theorem txtB_ok {n : Int} (h : okF n = true) : txtB n = ⟨(fixTxt n).toArray⟩ := by unfold txtB; rw [h]; rfl
theorem txtB_bad {n : Int} (h : okF n = false) : txtB n = ⟨#[]⟩ := by unfold txtB; rw [h]; rfl

theorem text_any (m n : Int) (w : World) (hr : Rdy m w) :
    Calls Tryd.prog 13 #[.int .i64 n] w fun e w' => e = .returned (.tuple #[.string (txtB n), errN (flt n)]) ∧ Below w.heap.size w w' ∧ Rdy m w' := by
  cases h : okF n
  · rw [txtB_bad h, flt_bad h, errN_1]
    refine (text_bad n w h).mono ?_
    rintro e w' ⟨rfl, rfl⟩
    exact ⟨rfl, Below.refl _ _, hr⟩
  · rw [txtB_ok h, flt_ok h, errN_0]
    refine (text_ok n w hr.1 h).mono ?_
    rintro e w' ⟨rfl, hb⟩
    exact ⟨rfl, hb, hr.below hb⟩
theorem mul_rdy (m a b : Int) (w : World) (hr : Rdy m w) :
    Calls Tryd.prog 16 #[.int .i64 a, .int .i64 b] w fun e w' => e = .returned (.tuple #[.int .i64 (linN a b 0 0 0), errN (linE a b 0 0 0)]) ∧ Below w.heap.size w w' ∧ Rdy m w' := by
  refine (mul_any a b w).mono ?_
  rintro e w' ⟨rfl, hb⟩
  exact ⟨rfl, hb, hr.below hb⟩
theorem add_rdy (m a b : Int) (w : World) (hr : Rdy m w) :
    Calls Tryd.prog 18 #[.int .i64 a, .int .i64 b] w fun e w' => e = .returned (.tuple #[.int .i64 (addN a b), errN (addE a b)]) ∧ Below w.heap.size w w' ∧ Rdy m w' := by
  refine (add_any a b w).mono ?_
  rintro e w' ⟨rfl, hb⟩
  exact ⟨rfl, hb, hr.below hb⟩
theorem parse_rdy (m : Int) (s : ByteArray) (w : World) (hr : Rdy m w) (hs : s.size ≤ 1000) :
    Calls Tryd.prog 20 #[.string s] w fun e w' => e = .returned (.tuple #[.int .i64 (parseN s.data.toList), errN (parseE s.data.toList)]) ∧ Below w.heap.size w w' ∧ Rdy m w' := by
  refine (parse_any s w hs m hr.2).mono ?_
  rintro e w' ⟨rfl, n, rfl⟩
  exact ⟨rfl, bel_drewN w n, hr.below (bel_drewN w n)⟩
theorem fixTxt_len (n : Int) (h : okF n = true) : (fixTxt n).length ≤ 40 := by
  have h' := okF_iff.1 h
  by_cases hn : 0 ≤ n
  · obtain ⟨u, rfl⟩ : ∃ u : Nat, n = u := ⟨n.toNat, by omega⟩
    rw [fixTxt_nonneg]; have := body_len u (by omega); omega
  · obtain ⟨u, rfl⟩ : ∃ u : Nat, n = -(u : Int) := ⟨n.natAbs, by omega⟩
    rw [fixTxt_neg u (by omega)]; have := body_len u (by omega); simp only [List.length_cons]; omega
/-- A number's text, read by the program: it. -/
theorem parse_text (m n : Int) (w : World) (hr : Rdy m w) (h : okF n = true) :
    Calls Tryd.prog 20 #[.string (txtB n)] w fun e w' => e = .returned (.tuple #[.int .i64 n, .nilIface]) ∧ Below w.heap.size w w' ∧ Rdy m w' := by
  have hl := fixTxt_len n h
  have := parse_rdy m (txtB n) w hr (by rw [txtB_ok h]; simp [ByteArray.size]; omega)
  rw [show (txtB n).data.toList = fixTxt n by rw [txtB_ok h], (read_text n h).1, (read_text n h).2, errN_0] at this
  exact this
end Go.Proofs.YtidillbpoklnjaaDoor
