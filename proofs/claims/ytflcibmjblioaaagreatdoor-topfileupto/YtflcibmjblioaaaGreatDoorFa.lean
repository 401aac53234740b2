/-
  Joined: Fr, Pl, Fa.
-/
import Derived.Test.YtflcibmjblioaaaGreatDoorCards
import Derived.Test.YtflcibmjblioaaaGreatDoorTie
import Derived.WalkKit
import Derived.ProofKit
import Derived.OpenShut
import Derived.Deep.DeepHandedRow
import Derived.Lib.LaidTab
import Derived.RowKit
import Derived.IntWalk
import Derived.Test.YtflcibmjblioaaaGreatDoorRows
import Derived.WalkSpells
import Derived.WalkLawsBesides
import Derived.Handy

/-
  What every law of this seat shares: a call that handed back true and wrote nothing that was there meets the law's specification; a world for the witness in which the three tables lie as the program's text lays them.
-/
namespace Go.Proofs.YtflcibmjblioaaaGreatDoor
open Go.ChangeShapes Go.WideShapes Go.ChangeAt Go.RowKit

theorem own : ownKnob Tryz.prog.godebug = none := by kernel_rfl
theorem laidOut : laidOutB Tryz.prog = true := by kernel_rfl

theorem trodAll_below {H : Type} {enc : TypeId × Value → H} {P : Program} (hl : laidOutB P = true) {W W' : World} (hb : Below W.heap.size W W') :
    ∀ {ts : List TypeId} {vs : List Value} {ds : List (DataW H)} {ps : List MemPlace}, (∀ t ∈ ts, P.readableRec t = true ∧ t < P.types.size) →
      DataW.TrodAll enc P W 0 (fun _ => true) true ts vs ds ps → (∀ x ∈ ps, x.block < W.heap.size) → DataW.TrodAll enc P W' 0 (fun b => decide (b < W.heap.size)) true ts vs ds ps
  | [], _, _, _, _, h, _ => by
    obtain ⟨rfl, rfl, rfl⟩ := trodAll_nil h
    exact trodAll_mk0
  | t :: ts, _, _, _, ht, h, hlt => by
    obtain ⟨v, vs, d, ds, p, q, rfl, rfl, rfl, h0, r⟩ := trodAll_cons h
    have h1 := ht t (by simp)
    exact trodAll_cons_mk (Below.trod hl h1.1 h1.2 h0 hb (fun x hx => hlt x (by simp [hx]))) (trodAll_below hl hb (fun u hu => ht u (by simp [hu])) r (fun x hx => hlt x (by simp [hx])))

/-- A call that handed back true, and below what was there all is as it was: the specification 'true, each argument as it read'. -/
theorem post_law {H : Type} {enc : TypeId × Value → H} {f : Func} {s : ChangeSpec} {W W' : World} {args : Array Value} {ds gs : List (DataW H)} {before : List MemPlace}
    (hW : DataW.Whole enc Tryz.prog f.params.toList s.vars false W args.toList ds gs before) (hv : s.vars = []) (hb : Below W.heap.size W W')
    (ht : ∀ t ∈ f.params.toList, Tryz.prog.readableRec t = true ∧ t < Tryz.prog.types.size) (hr : f.resultTypes = #[4])
    (hfn : s.fn H (ds ++ gs) = { results := [.lit (.bool true)], args := ds }) :
    s.post enc Tryz.prog f false true false false W args (.bool true) W' := by
  have hW' := hW
  obtain ⟨p, q, hA, hV, rfl, hfz, hnd⟩ := hW
  rw [hv] at hV
  obtain ⟨rfl, rfl⟩ := trodVars_none hV
  refine ⟨ds, [], p ++ [], [], p, [], hW', ?_, ?_, ?_, hb.frame _, fun h => by cases h⟩
  · rw [hfn, hr]; exact trodAll_cons_mk (shut_bool Tryz.underlying4 _) trodAll_mk0
  · rw [hfn]; exact trodAll_below laidOut hb ht hA (fun x hx => hW'.lt x (by simp [hx]))
  · rw [hfn, hv]; rfl

/-- A world for the witness: the settled one, the tables holding what their initialisers lay. -/
def tabInts {H : Type} : DataW H → List Int
  | .agg l => l.map fun | .lit (.int _ z) => z | _ => 0
  | _ => []
def laidBlock (k : IntKind) (zs : List Int) : Obj → Obj
  | .cells _ t frozen => .cells (zs.map (Value.int k)).toArray t frozen
  | o => o
noncomputable def laidHeap (h : Array Obj) : Array Obj :=
  ((h.modify 3 (laidBlock .u64 (tabInts (H := Unit) Rows.laid_internal_strconv_uint64pow10))).modify 6 (laidBlock .u8 (tabInts (H := Unit) Rows.laid_math_bits_deBruijn32tab))).modify 7 (laidBlock .u8 (tabInts (H := Unit) Rows.laid_math_bits_deBruijn64tab))
end Go.Proofs.YtflcibmjblioaaaGreatDoor

/-
  Plain facts on numbers, no program: Go's division by a thousand that is rounded down; products of numbers stay in their range.
-/
namespace Go.Proofs.YtflcibmjblioaaaGreatDoor
open Go.RowKit

/-- A number of thousandths. -/
def okF (n : Int) : Bool := decide (-1000000000 ≤ n) && decide (n ≤ 1000000000)
theorem okF_iff {n : Int} : okF n = true ↔ -1000000000 ≤ n ∧ n ≤ 1000000000 := by simp [okF]
theorem okF_not {n : Int} : okF n = false ↔ n < -1000000000 ∨ 1000000000 < n := by
  rw [← Bool.not_eq_true, okF_iff]; omega
/-- The number of the error of what is no number: 1; else 0. -/
def flt (n : Int) : Int := if okF n then 0 else 1
theorem flt_ok {n : Int} (h : okF n = true) : flt n = 0 := by simp [flt, h]
theorem flt_bad {n : Int} (h : okF n = false) : flt n = 1 := by simp [flt, h]
end Go.Proofs.YtflcibmjblioaaaGreatDoor

/-
  Contracts of the small functions of the law, of the document's answer and of package fix: what each call hands back, for every number; the world stays as it was.
-/
namespace Go.Proofs.YtflcibmjblioaaaGreatDoor
open Go.RowKit
set_option maxRecDepth 100000

/-- An error of package api, as a value. -/
def errV (k : Int) : Value := .iface 50 (.int .i64 k)
theorem hid {p : Prop} (h : p) : Hid p := h
theorem ret_int {k : IntKind} {a b : Int} (h : a = b) : Ending.returned (.int k a) = .returned (.int k b) := by rw [h]
theorem ret_bool {a b : Bool} (h : a = b) : Ending.returned (.bool a) = .returned (.bool b) := by rw [h]
set_option maxHeartbeats 400000 in
theorem check_ok (n : Int) (w : World) (h1 : -1000000000 ≤ n) (h2 : n ≤ 1000000000) :
    Calls Tryz.prog 156 #[.int .i64 n] w fun e w' => e = .returned .nilIface ∧ w' = w := by
  go_enter Tryz.func156, Tryz.ntmps156
  go_wp2
  go_ret
  exact ⟨rfl, rfl⟩

set_option maxHeartbeats 400000 in
theorem check_bad (n : Int) (w : World) (h : n < -1000000000 ∨ 1000000000 < n) :
    Calls Tryz.prog 156 #[.int .i64 n] w fun e w' => e = .returned (errV 1) ∧ w' = w := by
  by_cases h1 : n < -1000000000
  · go_enter Tryz.func156, Tryz.ntmps156
    go_wp2
    go_ret
    exact ⟨rfl, rfl⟩
  · have h2 : 1000000000 < n := by omega
    go_enter Tryz.func156, Tryz.ntmps156
    go_wp2
    go_ret
    exact ⟨rfl, rfl⟩

set_option maxHeartbeats 400000 in
theorem number_ok (n : Int) (w : World) (h1 : -1000000000 ≤ n) (h2 : n ≤ 1000000000) :
    Calls Tryz.prog 187 #[.int .i64 n] w fun e w' => e = .returned (.tuple #[.int .i64 n, .nilIface]) ∧ w' = w := by
  go_enter Tryz.func187, Tryz.ntmps187
  go_wp2
  go_ret2
  exact ⟨rfl, rfl⟩

set_option maxHeartbeats 400000 in
theorem number_bad (n : Int) (w : World) (h : n < -1000000000 ∨ 1000000000 < n) :
    Calls Tryz.prog 187 #[.int .i64 n] w fun e w' => e = .returned (.tuple #[.int .i64 0, errV 1]) ∧ w' = w := by
  by_cases h1 : n < -1000000000
  · go_enter Tryz.func187, Tryz.ntmps187
    go_wp2
    go_ret2
    exact ⟨rfl, rfl⟩
  · have h2 : 1000000000 < n := by omega
    go_enter Tryz.func187, Tryz.ntmps187
    go_wp2
    go_ret2
    exact ⟨rfl, rfl⟩

/-- An error by its number: 0: none. -/
def errN (k : Int) : Value := if k = 0 then .nilIface else errV k
theorem errN_0 : errN 0 = .nilIface := rfl
theorem errN_1 : errN 1 = errV 1 := rfl
theorem errN_pos {k : Int} (h : k ≠ 0) : errN k = errV k := by simp [errN, h]

theorem check_any (n : Int) (w : World) :
    Calls Tryz.prog 156 #[.int .i64 n] w fun e w' => e = .returned (errN (flt n)) ∧ w' = w := by
  cases h : okF n
  · rw [flt_bad h, errN_1]; exact check_bad n w (okF_not.1 h)
  · rw [flt_ok h, errN_0]; exact check_ok n w (okF_iff.1 h).1 (okF_iff.1 h).2

end Go.Proofs.YtflcibmjblioaaaGreatDoor
