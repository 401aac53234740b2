/-
  Joined: Yy, Rz, Lze.
-/
import Derived.Test.YtflcibmjblioaaaGreatDoorVi
import Derived.Test.YtflcibmjblioaaaGreatDoorVl
import Derived.Test.YtflcibmjblioaaaGreatDoorMh
import Derived.Lib.LaidU8

/-
  parse.Value, whole.
-/
namespace Go.Proofs.YtflcibmjblioaaaGreatDoor
open Go.RowKit
set_option maxRecDepth 100000

/-- What reading from a place on makes: the value, an error, where it ends. -/
noncomputable def pV (s : ByteArray) (a : Int) : Rd :=
  if 60000 < s.size ∨ a < 0 ∨ (s.size : Int) < a then (V0 0 0 eB, 1, 0)
  else if (rdV s 8 a.toNat).2.1 ≠ 0 then (V0 0 0 eB, (rdV s 8 a.toNat).2.1, 0)
  else if faultV (rdV s 8 a.toNat).1 ≠ 0 then (V0 0 0 eB, faultV (rdV s 8 a.toNat).1, 0)
  else rdV s 8 a.toNat
/-- What reading leans on. -/
structure Gr (m : Int) (w : World) : Prop where
  rdy : Rdy m w
  syn : IfAt w 1
  rng : IfAt w 2
theorem Gr.below {m : Int} {w w' : World} (h : Gr m w) (hb : Below w.heap.size w w') : Gr m w' := ⟨h.rdy.below hb, h.syn.later hb, h.rng.later hb⟩
theorem IfAt.lt {w : World} {b : Nat} (h : IfAt w b) : b < w.heap.size := by
  obtain ⟨ev, h1, _⟩ := h
  exact World.block_lt_of_cell? w ⟨b, 0, none⟩ h1
theorem var_lt {p : Program} {W : World} {g : Nat} {n : String} {cs : Array Value} (hg : p.globalNamed n = some g) (h : W.var? p n = some cs) : g < W.heap.size := by
  unfold World.var? at h
  rw [hg] at h
  simp only [Option.bind_some] at h
  cases hh : W.heap[g]? with
  | none => rw [hh] at h; cases h
  | some o => exact (Array.getElem?_eq_some_iff.1 hh).1
theorem Gr.env {m : Int} {w : World} (h : Gr m w) {P : Nat} (hP : w.heap.size ≤ P) : Env m P w :=
  ⟨h.rdy, h.syn, h.rng, Nat.lt_of_lt_of_le (var_lt gPow h.rdy.1) hP, Nat.lt_of_lt_of_le (World.block_lt_of_cell? w ⟨_, 0, none⟩ h.rdy.2) hP, Nat.lt_of_lt_of_le h.syn.lt hP, Nat.lt_of_lt_of_le h.rng.lt hP⟩
theorem rep_0 (d : Nat) (w : World) : RepN (d + 1) w (V0 0 0 eB) [.int .i64 0, .int .i64 0, .string ⟨#[]⟩, .slice none 0 0, .slice none 0 0] := rep_vc d w 0 0 eB (by decide)
/-- The answer's block, and a reader's behind it. -/
structure Nest (w a : World) (s : ByteArray) (j : Nat) : Prop where
  below : Below w.heap.size w a
  box : At a w.heap.size 40 (vc 0 0 ⟨#[]⟩)
  at_ : RdAt a (w.heap.size + 1) s j
theorem Nest.new (w : World) (s : ByteArray) (k : Nat) : Nest w ((w.alloc (.cells (vc 0 0 ⟨#[]⟩) 40)).alloc (.cells #[.string s, .int .i64 k] 104)) s k := by
  refine ⟨Below.trans (below_box w _) ((below_box _ _).mono (by simp)), (At.new w _ _ rfl).alloc _, ?_⟩
  have := At.new (w.alloc (.cells (vc 0 0 ⟨#[]⟩) 40)) #[.string s, .int .i64 k] 104 rfl
  rwa [show (w.alloc (.cells (vc 0 0 ⟨#[]⟩) 40)).heap.size = w.heap.size + 1 by simp] at this
theorem Nest.lt1 {w a : World} {s : ByteArray} {j : Nat} (h : Nest w a s j) : w.heap.size + 1 < a.heap.size := At.lt h.at_
theorem Nest.moved {w a b : World} {s : ByteArray} {j i : Nat} (h : Nest w a s j) (m : Moved (w.heap.size + 1) a b s i) : Nest w b s i :=
  ⟨h.below.trans ((m.keep.upTo (by have := h.lt1; omega)).mono (by omega)), m.keep.at h.box (by omega), m.at_⟩
theorem Nest.below' {w a b : World} {s : ByteArray} {j : Nat} (h : Nest w a s j) (hb : Below a.heap.size a b) : Nest w b s j := h.moved ⟨.of hb, At.later h.at_ hb⟩
theorem Nest.fill5 {w a : World} {s : ByteArray} {j : Nat} (h : Nest w a s j) (v0 v1 v2 v3 v4 : Value) {wf : World} (hf : wf = set5 a w.heap.size v0 v1 v2 v3 v4) :
    Below w.heap.size w wf ∧ At wf w.heap.size 40 #[v0, v1, v2, v3, v4] ∧ wf.heap.size = a.heap.size ∧ ∀ k, k ≠ w.heap.size → wf.heap[k]? = a.heap[k]? := by
  subst hf
  exact ⟨below_set5 h.below (Nat.le_refl _) _ _ _ _ _, At.five h.box _ _ _ _ _, set5_size _ _ _ _ _ _ _, fun k hk => set5_other _ _ _ _ _ _ _ hk⟩
theorem Nest.fillZ {w a : World} {s : ByteArray} {j : Nat} (h : Nest w a s j) :
    let wf := ((((a.setCell ⟨w.heap.size, 0, none⟩ (.int .i64 0)).setCell ⟨w.heap.size, 1, none⟩ (.int .i64 0)).setCell ⟨w.heap.size, 2, none⟩ (.string ⟨#[]⟩)).setCell ⟨w.heap.size, 3, none⟩ (.slice none 0 0)).setCell ⟨w.heap.size, 4, none⟩ (.slice none 0 0)
    Below w.heap.size w wf ∧ At wf w.heap.size 40 (vc 0 0 ⟨#[]⟩) :=
  ⟨below_set5 h.below (Nat.le_refl _) _ _ _ _ _, h.box.vc5 0 0 _⟩
end Go.Proofs.YtflcibmjblioaaaGreatDoor

/-
  What the row's list and the world's shape give to reading: the tables, and two errors that are there.
-/
namespace Go.Proofs.YtflcibmjblioaaaGreatDoor
open Go.ChangeShapes Go.WideShapes Go.ChangeAt Go.RowKit
set_option maxRecDepth 100000

theorem gSyn : Tryz.prog.globalNamed "strconv.ErrSyntax" = some 1 := by kernel_rfl
theorem gSynType : (Tryz.prog.globals[1]?).map (·.type) = some 26 := by kernel_rfl
theorem gRng : Tryz.prog.globalNamed "strconv.ErrRange" = some 2 := by kernel_rfl
theorem gRngType : (Tryz.prog.globals[2]?).map (·.type) = some 26 := by kernel_rfl
theorem errStar : "*" ++ "errors.errorString" = "*errors.errorString" := by decide
theorem rowErrS (u : TypeId) (h : Tryz.prog.typeName? 3 u = some "*errors.errorString") : u = 233 :=
  typeName_ptr_named (nm := "errors.errorString") (by rw [errStar]; kernel_rfl) (by kernel_rfl) (by decide) u (by rw [errStar]; exact h)
theorem cellsErrS : Tryz.prog.cellsOf 235 = 1 := by kernel_rfl
abbrev synS : ByteArray := { data := #[105, 110, 118, 97, 108, 105, 100, 32, 115, 121, 110, 116, 97, 120] }
abbrev rngS : ByteArray := { data := #[118, 97, 108, 117, 101, 32, 111, 117, 116, 32, 111, 102, 32, 114, 97, 110, 103, 101] }
/-- So many blocks has the settled world. -/
noncomputable def low : Nat := (World.holding Tryz.prog default ⟨#[], #[], []⟩).heap.size
def sentBlock (a : Nat) : Obj → Obj
  | .cells _ t frozen => .cells #[.iface 233 (.pointer (some ⟨a, 0, none⟩))] t frozen
  | o => o
end Go.Proofs.YtflcibmjblioaaaGreatDoor

/-
  What the row's list and the world's shape give, where seven variables are listed: the tables, and two errors that are there.
-/
namespace Go.Proofs.YtflcibmjblioaaaGreatDoor
open Go.ChangeShapes Go.WideShapes Go.ChangeAt Go.RowKit
set_option maxRecDepth 100000

theorem gr7_of {W : World} (hL : laidMet Tryz.prog [("math/bits.deBruijn32tab", Rows.laid_math_bits_deBruijn32tab), ("math/bits.deBruijn64tab", Rows.laid_math_bits_deBruijn64tab), ("internal/strconv.uint64pow10", Rows.laid_internal_strconv_uint64pow10), ("unicode/utf8.acceptRanges", Rows.laid_unicode_utf8_acceptRanges), ("strconv.ErrRange", Rows.laid_strconv_ErrRange), ("strconv.ErrSyntax", Rows.laid_strconv_ErrSyntax), ("unicode/utf8.first", Rows.laid_unicode_utf8_first)] W) (hsh : W.ShapedOpen Tryz.prog) : ∃ m, Gr m W := by
  obtain ⟨m, hm⟩ := cell_of_shapedOpen_int (P := Tryz.prog) (g := 0) (t := 3) (zero := #[.int .i64 0]) hsh (of_decide_eq_true (by kernel_rfl)) (by kernel_rfl) rfl (by kernel_rfl) (by kernel_rfl) Tryz.underlying3
  have h3 := laidMet.tail (laidMet.tail (laidMet.tail (laidMet.tail hL)))
  obtain ⟨a0, s0, hv0, -, -, -⟩ := laid_sentinel h3 gRng gRngType Tryz.underlying26 rowErrS Tryz.underlying233 Tryz.underlying235 rfl rfl Tryz.underlying9 cellsErrS cellsStr
  obtain ⟨a1, s1, hv1, -, -, -⟩ := laid_sentinel (laidMet.tail h3) gSyn gSynType Tryz.underlying26 rowErrS Tryz.underlying233 Tryz.underlying235 rfl rfl Tryz.underlying9 cellsErrS cellsStr
  exact ⟨m, ⟨Lib.tabIs_of_head gPow gPowType Tryz.underlying218 Tryz.underlying177 cellsU64 cellsPow (laidMet.tail (laidMet.tail hL)), hm⟩,
    ⟨_, by have h0 := World.var?_cell gSyn hv1 0; simpa using h0, .inr ⟨_, _, rfl⟩⟩, ⟨_, by have h0 := World.var?_cell gRng hv0 0; simpa using h0, .inr ⟨_, _, rfl⟩⟩⟩
def acceptInts7 : List Int := (List.range 16).flatMap fun i => [(Lib.accLo i : Int), (Lib.accHi i : Int)]
/-- A world for the witness. -/
noncomputable def laidWorld7g (os : Os) : World :=
  { World.holding Tryz.prog os ⟨#[.cells #[.string synS] 235, .cells #[.string rngS] 235], #[], []⟩ with heap := ((((laidHeap (World.holding Tryz.prog os ⟨#[.cells #[.string synS] 235, .cells #[.string rngS] 235], #[], []⟩).heap).modify 1 (sentBlock low)).modify 2 (sentBlock (low + 1))).modify 4 (laidBlock .u8 Lib.firstTab)).modify 5 (laidBlock .u8 acceptInts7) }
end Go.Proofs.YtflcibmjblioaaaGreatDoor
