/-
  Joined: Fr, Pl, Fa.
-/
import Derived.Test.YtobpidmlgldnmaaGreatDoorCards
import Derived.Test.YtobpidmlgldnmaaGreatDoorTie
import Derived.WalkKit
import Derived.ProofKit
import Derived.OpenShut
import Derived.Deep.DeepHandedRow
import Derived.Lib.LaidTab
import Derived.RowKit
import Derived.IntWalk
import Derived.Test.YtobpidmlgldnmaaGreatDoorRows
import Derived.WalkSpells
import Derived.WalkLawsBesides
import Derived.Handy

/-
  What every law of this seat shares: a call that handed back true and wrote nothing that was there meets the law's specification; a world for the witness in which the three tables lie as the program's text lays them.
-/
namespace Go.Proofs.YtobpidmlgldnmaaGreatDoor
open Go.ChangeShapes Go.WideShapes Go.ChangeAt Go.RowKit

theorem own : ownKnob Tryz.prog.godebug = none := by kernel_rfl
theorem laidOut : laidOutB Tryz.prog = true := by kernel_rfl

theorem trodAll_below {H : Type} {enc : TypeId × Value → H} {P : Program} (hl : laidOutB P = true) {W W' : World} (hb : Below W.heap.size W W') :
    ∀ {ts : List TypeId} {vs : List Value} {ds : List (DataW H)} {ps : List MemPlace}, (∀ t ∈ ts, P.readableRec t = true ∧ t < P.types.size) →
      DataW.TrodAll enc P W 0 (fun _ => true) true ts vs ds ps → (∀ x ∈ ps, x.block < W.heap.size) → DataW.TrodAll enc P W' 0 (fun b => decide (b < W.heap.size)) true ts vs ds ps
  | [], _, _, _, _, h, _ => by
    obtain ⟨rfl, rfl, rfl⟩ := trodAll_nil h
    exact trodAll_mk0
  | t :: ts, _, _, _, ht, h, hlt => by
    obtain ⟨v, vs, d, ds, p, q, rfl, rfl, rfl, h0, r⟩ := trodAll_cons h
    have h1 := ht t (by simp)
    exact trodAll_cons_mk (Below.trod hl h1.1 h1.2 h0 hb (fun x hx => hlt x (by simp [hx]))) (trodAll_below hl hb (fun u hu => ht u (by simp [hu])) r (fun x hx => hlt x (by simp [hx])))

/-- A call that handed back true, and below what was there all is as it was: the specification 'true, each argument as it read'. -/
theorem post_law {H : Type} {enc : TypeId × Value → H} {f : Func} {s : ChangeSpec} {W W' : World} {args : Array Value} {ds gs : List (DataW H)} {before : List MemPlace}
    (hW : DataW.Whole enc Tryz.prog f.params.toList s.vars false W args.toList ds gs before) (hv : s.vars = []) (hb : Below W.heap.size W W')
    (ht : ∀ t ∈ f.params.toList, Tryz.prog.readableRec t = true ∧ t < Tryz.prog.types.size) (hr : f.resultTypes = #[4])
    (hfn : s.fn H (ds ++ gs) = { results := [.lit (.bool true)], args := ds }) :
    s.post enc Tryz.prog f false true false false W args (.bool true) W' := by
  have hW' := hW
  obtain ⟨p, q, hA, hV, rfl, hfz, hnd⟩ := hW
  rw [hv] at hV
  obtain ⟨rfl, rfl⟩ := trodVars_none hV
  refine ⟨ds, [], p ++ [], [], p, [], hW', ?_, ?_, ?_, hb.frame _, fun h => by cases h⟩
  · rw [hfn, hr]; exact trodAll_cons_mk (shut_bool Tryz.underlying4 _) trodAll_mk0
  · rw [hfn]; exact trodAll_below laidOut hb ht hA (fun x hx => hW'.lt x (by simp [hx]))
  · rw [hfn, hv]; rfl

/-- A world for the witness: the settled one, the tables holding what their initialisers lay. -/
def tabInts {H : Type} : DataW H → List Int
  | .agg l => l.map fun | .lit (.int _ z) => z | _ => 0
  | _ => []
def laidBlock (k : IntKind) (zs : List Int) : Obj → Obj
  | .cells _ t frozen => .cells (zs.map (Value.int k)).toArray t frozen
  | o => o
noncomputable def laidHeap (h : Array Obj) : Array Obj :=
  ((h.modify 5 (laidBlock .u64 (tabInts (H := Unit) Rows.laid_internal_strconv_uint64pow10))).modify 6 (laidBlock .u8 (tabInts (H := Unit) Rows.laid_math_bits_deBruijn32tab))).modify 7 (laidBlock .u8 (tabInts (H := Unit) Rows.laid_math_bits_deBruijn64tab))
end Go.Proofs.YtobpidmlgldnmaaGreatDoor

/-
  Plain facts on numbers, no program: Go's division by a thousand that is rounded down; products of numbers stay in their range.
-/
namespace Go.Proofs.YtobpidmlgldnmaaGreatDoor
open Go.RowKit

theorem td_nonneg {n k : Int} (h : 0 ≤ n) : n.tdiv k = n / k := Int.tdiv_eq_ediv_of_nonneg h
theorem td_neg {n k : Int} : n.tdiv k = -((-n).tdiv k) := by rw [Int.neg_tdiv]; omega
theorem tm_nonneg {n k : Int} (h : 0 ≤ n) : n.tmod k = n % k := Int.tmod_eq_emod_of_nonneg h
theorem tm_neg {n k : Int} : n.tmod k = -((-n).tmod k) := by rw [Int.neg_tmod]; omega

theorem down_neg (n : Int) (h : -9223372036854775808 ≤ n) (h2 : n ≤ 9223372036854775807) (hm : n.tmod 1000 < 0) : wrap64 (n.tdiv 1000 - 1) = n / 1000 := by
  by_cases hn : 0 ≤ n
  · rw [tm_nonneg hn] at hm; omega
  · rw [tm_neg, tm_nonneg (by omega)] at hm
    rw [td_neg, td_nonneg (by omega)]; unfold wrap64; omega
theorem down_pos (n : Int) (hm : 0 ≤ n.tmod 1000) : n.tdiv 1000 = n / 1000 := by
  by_cases hn : 0 ≤ n
  · exact td_nonneg hn
  · rw [tm_neg, tm_nonneg (by omega)] at hm
    rw [td_neg, td_nonneg (by omega)]; omega
/-- A number of thousandths. -/
def okF (n : Int) : Bool := decide (-1000000000 ≤ n) && decide (n ≤ 1000000000)
theorem okF_iff {n : Int} : okF n = true ↔ -1000000000 ≤ n ∧ n ≤ 1000000000 := by simp [okF]
theorem okF_not {n : Int} : okF n = false ↔ n < -1000000000 ∨ 1000000000 < n := by
  rw [← Bool.not_eq_true, okF_iff]; omega
theorem mul_in {a b : Int} (ha1 : -1000000000 ≤ a) (ha2 : a ≤ 1000000000) (hb1 : -1000000000 ≤ b) (hb2 : b ≤ 1000000000) : -1000000000000000000 ≤ a * b ∧ a * b ≤ 1000000000000000000 := by
  have h : (a * b).natAbs ≤ 1000000000 * 1000000000 := by
    rw [Int.natAbs_mul]; exact Nat.mul_le_mul (by omega) (by omega)
  omega
/-- The number of the error of what is no number: 1; else 0. -/
def flt (n : Int) : Int := if okF n then 0 else 1
theorem flt_ok {n : Int} (h : okF n = true) : flt n = 0 := by simp [flt, h]
theorem flt_bad {n : Int} (h : okF n = false) : flt n = 1 := by simp [flt, h]
/-- 'a times x and c times y, rounded down, and e': the number of its error, and it. -/
def linE (a x c y e : Int) : Int := if okF a && okF x && okF c && okF y && okF e && okF ((a * x + c * y) / 1000 + e) then 0 else 1
def linN (a x c y e : Int) : Int := if okF a && okF x && okF c && okF y && okF e && okF ((a * x + c * y) / 1000 + e) then (a * x + c * y) / 1000 + e else 0
theorem lin_ok {a x c y e : Int} (ha : okF a = true) (hx : okF x = true) (hc : okF c = true) (hy : okF y = true) (he : okF e = true) (ho : okF ((a * x + c * y) / 1000 + e) = true) : linE a x c y e = 0 ∧ linN a x c y e = (a * x + c * y) / 1000 + e := by
  simp [linE, linN, ha, hx, hc, hy, he, ho]
theorem lin_bad {a x c y e : Int} (h : okF a = false ∨ okF x = false ∨ okF c = false ∨ okF y = false ∨ okF e = false ∨ okF ((a * x + c * y) / 1000 + e) = false) : linE a x c y e = 1 ∧ linN a x c y e = 0 := by
  rcases h with h | h | h | h | h | h <;> simp [linE, linN, h]
theorem linE_01 (a x c y e : Int) : 0 ≤ linE a x c y e ∧ linE a x c y e ≤ 1 := by unfold linE; split <;> omega
/-- Sums. -/
def addE (a b : Int) : Int := if okF a && okF b && okF (a + b) then 0 else 1
def addN (a b : Int) : Int := if okF a && okF b && okF (a + b) then a + b else 0
theorem add_ok {a b : Int} (ha : okF a = true) (hb : okF b = true) (ho : okF (a + b) = true) : addE a b = 0 ∧ addN a b = a + b := by simp [addE, addN, ha, hb, ho]
theorem add_bad {a b : Int} (h : okF a = false ∨ okF b = false ∨ okF (a + b) = false) : addE a b = 1 ∧ addN a b = 0 := by
  rcases h with h | h | h <;> simp [addE, addN, h]
end Go.Proofs.YtobpidmlgldnmaaGreatDoor

/-
  Contracts of the small functions of the law, of the document's answer and of package fix: what each call hands back, for every number; the world stays as it was.
-/
namespace Go.Proofs.YtobpidmlgldnmaaGreatDoor
open Go.RowKit
set_option maxRecDepth 100000

/-- An error of package api, as a value. -/
def errV (k : Int) : Value := .iface 68 (.int .i64 k)
theorem hid {p : Prop} (h : p) : Hid p := h
theorem ret_int {k : IntKind} {a b : Int} (h : a = b) : Ending.returned (.int k a) = .returned (.int k b) := by rw [h]
theorem ret_bool {a b : Bool} (h : a = b) : Ending.returned (.bool a) = .returned (.bool b) := by rw [h]
theorem assertErr (v : Value) (w : World) : (Instr.typeAssert (.iface 68 v) 32 68 true).run Tryz.prog w = .ok (.tuple #[v, .bool true]) w := by kernel_rfl

set_option maxHeartbeats 400000 in
theorem check_ok (n : Int) (w : World) (h1 : -1000000000 ≤ n) (h2 : n ≤ 1000000000) :
    Calls Tryz.prog 65 #[.int .i64 n] w fun e w' => e = .returned .nilIface ∧ w' = w := by
  go_enter Tryz.func65, Tryz.ntmps65
  go_wp2
  go_ret
  exact ⟨rfl, rfl⟩

set_option maxHeartbeats 400000 in
theorem check_bad (n : Int) (w : World) (h : n < -1000000000 ∨ 1000000000 < n) :
    Calls Tryz.prog 65 #[.int .i64 n] w fun e w' => e = .returned (errV 1) ∧ w' = w := by
  by_cases h1 : n < -1000000000
  · go_enter Tryz.func65, Tryz.ntmps65
    go_wp2
    go_ret
    exact ⟨rfl, rfl⟩
  · have h2 : 1000000000 < n := by omega
    go_enter Tryz.func65, Tryz.ntmps65
    go_wp2
    go_ret
    exact ⟨rfl, rfl⟩

set_option maxHeartbeats 400000 in
theorem fault_ok (n : Int) (w : World) (h1 : -1000000000 ≤ n) (h2 : n ≤ 1000000000) :
    Calls Tryz.prog 19 #[.int .i64 n] w fun e w' => e = .returned (.int .i64 0) ∧ w' = w := by
  go_enter Tryz.func19, Tryz.ntmps19
  go_wp2
  go_ret
  exact ⟨rfl, rfl⟩

set_option maxHeartbeats 400000 in
theorem fault_bad (n : Int) (w : World) (h : n < -1000000000 ∨ 1000000000 < n) :
    Calls Tryz.prog 19 #[.int .i64 n] w fun e w' => e = .returned (.int .i64 1) ∧ w' = w := by
  by_cases h1 : n < -1000000000
  · go_enter Tryz.func19, Tryz.ntmps19
    go_wp2
    go_ret
    exact ⟨rfl, rfl⟩
  · have h2 : 1000000000 < n := by omega
    go_enter Tryz.func19, Tryz.ntmps19
    go_wp2
    go_ret
    exact ⟨rfl, rfl⟩

set_option maxHeartbeats 400000 in
theorem number_ok (n : Int) (w : World) (h1 : -1000000000 ≤ n) (h2 : n ≤ 1000000000) :
    Calls Tryz.prog 126 #[.int .i64 n] w fun e w' => e = .returned (.tuple #[.int .i64 n, .nilIface]) ∧ w' = w := by
  go_enter Tryz.func126, Tryz.ntmps126
  go_wp2
  go_ret2
  exact ⟨rfl, rfl⟩

set_option maxHeartbeats 400000 in
theorem number_bad (n : Int) (w : World) (h : n < -1000000000 ∨ 1000000000 < n) :
    Calls Tryz.prog 126 #[.int .i64 n] w fun e w' => e = .returned (.tuple #[.int .i64 0, errV 1]) ∧ w' = w := by
  by_cases h1 : n < -1000000000
  · go_enter Tryz.func126, Tryz.ntmps126
    go_wp2
    go_ret2
    exact ⟨rfl, rfl⟩
  · have h2 : 1000000000 < n := by omega
    go_enter Tryz.func126, Tryz.ntmps126
    go_wp2
    go_ret2
    exact ⟨rfl, rfl⟩

set_option maxHeartbeats 400000 in
theorem down_any (n : Int) (w : World) (h1 : -9223372036854775808 ≤ n) (h2 : n ≤ 9223372036854775807) :
    Calls Tryz.prog 127 #[.int .i64 n] w fun e w' => e = .returned (.int .i64 (n / 1000)) ∧ w' = w := by
  go_enter Tryz.func127, Tryz.ntmps127
  go_wp2
  all_goals go_ret
  · exact ⟨ret_int (down_neg n h1 h2 ‹_›), rfl⟩
  · exact ⟨ret_int (down_pos n ‹_›), rfl⟩

/-- An error by its number: 0: none. -/
def errN (k : Int) : Value := if k = 0 then .nilIface else errV k
theorem errN_0 : errN 0 = .nilIface := rfl
theorem errN_1 : errN 1 = errV 1 := rfl
theorem errN_pos {k : Int} (h : k ≠ 0) : errN k = errV k := by simp [errN, h]

theorem check_any (n : Int) (w : World) :
    Calls Tryz.prog 65 #[.int .i64 n] w fun e w' => e = .returned (errN (flt n)) ∧ w' = w := by
  cases h : okF n
  · rw [flt_bad h, errN_1]; exact check_bad n w (okF_not.1 h)
  · rw [flt_ok h, errN_0]; exact check_ok n w (okF_iff.1 h).1 (okF_iff.1 h).2

set_option maxHeartbeats 400000 in
theorem together_ok (a x c y e : Int) (w : World) (ha : okF a = true) (hx : okF x = true) (hc : okF c = true) (hy : okF y = true) (ho : okF ((a * x + c * y) / 1000 + e) = true) :
    Calls Tryz.prog 101 #[.int .i64 a, .int .i64 x, .int .i64 c, .int .i64 y, .int .i64 e] w fun r w' => r = .returned (.tuple #[.int .i64 ((a * x + c * y) / 1000 + e), .nilIface]) ∧ w' = w := by
  rw [okF_iff] at *
  have m1 := mul_in ha.1 ha.2 hx.1 hx.2
  have m2 := mul_in hc.1 hc.2 hy.1 hy.2
  go_enter Tryz.func101, Tryz.ntmps101
  go_wp2_with (first
    | (go_at_call 127; refine (down_any _ _ (by omega) (by omega)).mono ?_; rintro r w' ⟨rfl, rfl⟩)
    | (go_at_call 126; refine (number_ok _ _ (by omega) (by omega)).mono ?_; rintro r w' ⟨rfl, rfl⟩))
  go_ret2
  exact ⟨rfl, rfl⟩

set_option maxHeartbeats 400000 in
theorem together_bad (a x c y e : Int) (w : World) (ha : okF a = true) (hx : okF x = true) (hc : okF c = true) (hy : okF y = true) (he : okF e = true) (ho : okF ((a * x + c * y) / 1000 + e) = false) :
    Calls Tryz.prog 101 #[.int .i64 a, .int .i64 x, .int .i64 c, .int .i64 y, .int .i64 e] w fun r w' => r = .returned (.tuple #[.int .i64 0, errV 1]) ∧ w' = w := by
  rw [okF_iff] at ha hx hc hy he
  rw [okF_not] at ho
  have m1 := mul_in ha.1 ha.2 hx.1 hx.2
  have m2 := mul_in hc.1 hc.2 hy.1 hy.2
  obtain ⟨he1, he2⟩ := he
  go_enter Tryz.func101, Tryz.ntmps101
  go_wp2_with (first
    | (go_at_call 127; refine (down_any _ _ (by omega) (by omega)).mono ?_; rintro r w' ⟨rfl, rfl⟩)
    | (go_at_call 126; refine (number_bad _ _ (by omega)).mono ?_; rintro r w' ⟨rfl, rfl⟩))
  go_ret2
  exact ⟨rfl, rfl⟩

theorem together_any (a x c y e : Int) (w : World) (ha : okF a = true) (hx : okF x = true) (hc : okF c = true) (hy : okF y = true) (he : okF e = true) :
    Calls Tryz.prog 101 #[.int .i64 a, .int .i64 x, .int .i64 c, .int .i64 y, .int .i64 e] w fun r w' => r = .returned (.tuple #[.int .i64 (linN a x c y e), errN (linE a x c y e)]) ∧ w' = w := by
  cases ho : okF ((a * x + c * y) / 1000 + e)
  · obtain ⟨q1, q2⟩ := lin_bad (a := a) (x := x) (c := c) (y := y) (e := e) (by simp [ho])
    rw [q1, q2, errN_1]; exact together_bad a x c y e w ha hx hc hy he ho
  · obtain ⟨q1, q2⟩ := lin_ok ha hx hc hy he ho
    rw [q1, q2, errN_0]; exact together_ok a x c y e w ha hx hc hy ho

end Go.Proofs.YtobpidmlgldnmaaGreatDoor
