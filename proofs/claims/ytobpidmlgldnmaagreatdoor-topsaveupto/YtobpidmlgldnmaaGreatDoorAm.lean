/-
  Joined: Gz, Jz, Am.
-/
import Derived.Test.YtobpidmlgldnmaaGreatDoorFa
import Derived.Test.YtobpidmlgldnmaaGreatDoorCp
import Derived.Test.YtobpidmlgldnmaaGreatDoorCb
import Derived.Test.YtobpidmlgldnmaaGreatDoorAq
import Derived.Laws.IdiomStrings
import Derived.Lib.FrozenHead

/-
  A world in which the listed tables and errors of the library lie as their initialisers lay them.
-/
namespace Go.Proofs.YtobpidmlgldnmaaGreatDoor
open Go.ChangeShapes Go.WideShapes Go.ChangeAt Go.RowKit
set_option maxRecDepth 100000

theorem tbr7_of {W : World} (hL : laidMet Tryz.prog [("math/bits.deBruijn32tab", Rows.laid_math_bits_deBruijn32tab), ("math/bits.deBruijn64tab", Rows.laid_math_bits_deBruijn64tab), ("internal/strconv.uint64pow10", Rows.laid_internal_strconv_uint64pow10), ("unicode/utf8.acceptRanges", Rows.laid_unicode_utf8_acceptRanges), ("strconv.ErrRange", Rows.laid_strconv_ErrRange), ("strconv.ErrSyntax", Rows.laid_strconv_ErrSyntax), ("unicode/utf8.first", Rows.laid_unicode_utf8_first)] W) (_hsh : W.ShapedOpen Tryz.prog) : ∃ m, TbR m W := by
  obtain ⟨ps, hv, _, _⟩ := hL
  have h3 := Lib.LaidVars_reads hv "unicode/utf8.first" Rows.laid_unicode_utf8_first (by simp)
  have h4 := Lib.LaidVars_reads hv "unicode/utf8.acceptRanges" Rows.laid_unicode_utf8_acceptRanges (by simp)
  rw [accept_eq] at h4
  unfold Rows.laid_unicode_utf8_first at h3
  rw [Pinned.utf8First_eq] at h3
  exact ⟨0, utf8Tabs_of_reads Tryz.lays260 u8x h3 h4⟩
abbrev synS7 : ByteArray := { data := #[105, 110, 118, 97, 108, 105, 100, 32, 115, 121, 110, 116, 97, 120] }
abbrev rngS7 : ByteArray := { data := #[118, 97, 108, 117, 101, 32, 111, 117, 116, 32, 111, 102, 32, 114, 97, 110, 103, 101] }
/-- So many blocks has the settled world. -/
noncomputable def low7 : Nat := (World.holding Tryz.prog default ⟨#[], #[], []⟩).heap.size
def sentB7 (a : Nat) : Obj → Obj
  | .cells _ t frozen => .cells #[.iface 246 (.pointer (some ⟨a, 0, none⟩))] t frozen
  | o => o
/-- A world for the witness. -/
noncomputable def laidWorld7 (os : Os) : World :=
  { World.holding Tryz.prog os ⟨#[.cells #[.string synS7] 248, .cells #[.string rngS7] 248], #[], []⟩ with heap := ((((laidHeap (World.holding Tryz.prog os ⟨#[.cells #[.string synS7] 248, .cells #[.string rngS7] 248], #[], []⟩).heap).modify 1 (sentB7 low7)).modify 2 (sentB7 (low7 + 1))).modify 3 (laidBlock .u8 Lib.firstTab)).modify 4 (laidBlock .u8 acceptInts) }
end Go.Proofs.YtobpidmlgldnmaaGreatDoor

/-
  What the row's list and the world's shape give to painting: the tables, and two errors that are there.
-/
namespace Go.Proofs.YtobpidmlgldnmaaGreatDoor
open Go.ChangeShapes Go.WideShapes Go.ChangeAt Go.RowKit
set_option maxRecDepth 100000

def GrT (m : Int) (W : World) : Prop := Gr m W ∧ Tb W
theorem grt_of {W : World} (hL : laidMet Tryz.prog [("math/bits.deBruijn32tab", Rows.laid_math_bits_deBruijn32tab), ("math/bits.deBruijn64tab", Rows.laid_math_bits_deBruijn64tab), ("internal/strconv.uint64pow10", Rows.laid_internal_strconv_uint64pow10), ("unicode/utf8.acceptRanges", Rows.laid_unicode_utf8_acceptRanges), ("strconv.ErrRange", Rows.laid_strconv_ErrRange), ("strconv.ErrSyntax", Rows.laid_strconv_ErrSyntax), ("unicode/utf8.first", Rows.laid_unicode_utf8_first)] W) (hsh : W.ShapedOpen Tryz.prog) : ∃ m, GrT m W := by
  obtain ⟨_, hT⟩ := tbr7_of hL hsh
  obtain ⟨m, hm⟩ := cell_of_shapedOpen_int (P := Tryz.prog) (g := 0) (t := 3) (zero := #[.int .i64 0]) hsh (of_decide_eq_true (by kernel_rfl)) (by kernel_rfl) rfl (by kernel_rfl) (by kernel_rfl) Tryz.underlying3
  have h3 := laidMet.tail (laidMet.tail (laidMet.tail (laidMet.tail hL)))
  obtain ⟨a0, s0, hv0, -, -, -⟩ := laid_sentinel h3 gRng gRngType Tryz.underlying32 rowErrS Tryz.underlying246 Tryz.underlying248 rfl rfl Tryz.underlying9 cellsErrS cellsStr
  obtain ⟨a1, s1, hv1, -, -, -⟩ := laid_sentinel (laidMet.tail h3) gSyn gSynType Tryz.underlying32 rowErrS Tryz.underlying246 Tryz.underlying248 rfl rfl Tryz.underlying9 cellsErrS cellsStr
  exact ⟨m, ⟨⟨Lib.tabIs_of_head gPow gPowType Tryz.underlying250 Tryz.underlying228 cellsU64 cellsPow (laidMet.tail (laidMet.tail hL)), hm⟩,
    ⟨_, by have h0 := World.var?_cell gSyn hv1 0; simpa using h0, .inr ⟨_, _, rfl⟩⟩, ⟨_, by have h0 := World.var?_cell gRng hv0 0; simpa using h0, .inr ⟨_, _, rfl⟩⟩⟩, hT⟩
end Go.Proofs.YtobpidmlgldnmaaGreatDoor

/-
  Bytes that a call owns, also where they were made of a string (their row then bears a mark behind its last cell): what appending to them does.
-/
namespace Go.Proofs.YtobpidmlgldnmaaGreatDoor
open Go.RowKit
set_option maxRecDepth 100000

/-- Bytes that a call owns; no cell behind them is frozen. -/
def OwnM (w : World) (B : Nat) (v : Value) (xs : List UInt8) : Prop :=
  ∃ g cap cur fz, v = .slice (some ⟨g, 0, none⟩) xs.length cap ∧ B ≤ g ∧ w.heap[g]? = some (.cells cur 5 fz) ∧ (∀ j, xs.length ≤ j → j < cur.size → ¬ (fz.1 ≤ j ∧ j < fz.2)) ∧ xs.length ≤ cap ∧ cap ≤ maxLen ∧ cur.size = cap ∧ cur.toList.take xs.length = xs.map byteV
theorem OwnM.lt {w : World} {B : Nat} {v : Value} {xs : List UInt8} (h : OwnM w B v xs) : ∀ g, v.ownBlock = some g → B ≤ g ∧ g < w.heap.size := by
  intro g hg
  obtain ⟨g', cap, cur, fz, rfl, h2, h3, _⟩ := h
  simp [Value.ownBlock] at hg
  subst hg
  exact ⟨h2, (Array.getElem?_eq_some_iff.1 h3).1⟩
theorem OwnM.later {w w' : World} {B : Nat} {v : Value} {xs : List UInt8} (h : OwnM w B v xs) (hb : Below w.heap.size w w') : OwnM w' B v xs := by
  obtain ⟨g, cap, cur, fz, h1, h2, h3, r⟩ := h
  exact ⟨g, cap, cur, fz, h1, h2, (hb.block g (Array.getElem?_eq_some_iff.1 h3).1).trans h3, r⟩
theorem OwnM.alloc {w : World} {B : Nat} {v : Value} {xs : List UInt8} (h : OwnM w B v xs) (o : Obj) : OwnM (w.alloc o) B v xs := h.later ((Below.refl _ _).alloc (Nat.le_refl _) o)
theorem OwnM.drew {w : World} {B : Nat} {v : Value} {xs : List UInt8} (h : OwnM w B v xs) : OwnM w.drew B v xs := h
theorem OwnM.cells {w : World} {B : Nat} {v : Value} {xs : List UInt8} (h : OwnM w B v xs) {g : Nat} (hg : v.ownBlock = some g) : ∀ j u, (xs.map byteV)[j]? = some u → w.cell? ((⟨g, 0, none⟩ : Addr).add j) = some u := by
  intro j u hu
  obtain ⟨g', cap, cur, fz, rfl, _, h3, _, _, _, _, h8⟩ := h
  simp [Value.ownBlock] at hg
  subst hg
  rw [Lib.add_plain, Nat.zero_add, cell_of_row w g' j cur _ fz h3]
  rw [← h8, List.getElem?_take] at hu
  split at hu
  · simpa using hu
  · cases hu
theorem OwnM.below {w w' : World} {B : Nat} {v v' : Value} {xs : List UInt8} (h : OwnM w B v xs) (hg : Grew v w v' w') (hB : B ≤ w.heap.size) : Below B w w' :=
  (Below.refl _ _).grown hg.by_ hB (fun q hq => (h.lt q hq).1)
section
variable {W : World} {ops : Array Oper} {rest : List Oper} {o : Oper} {a : Act} {Q : Exit → Act → World → Prop}
end
/-- Bytes made of a string. -/
theorem run_convM (W : World) (s : ByteArray) (hs : s.size ≤ 1000000000) : ∃ v' w', (convert 9 144 (.string s)).run Tryz.prog W = .ok v' w' ∧ OwnM w' W.heap.size v' s.data.toList ∧ Below W.heap.size W w' := by
  have hr := run_bytes_of_string (P := Tryz.prog) W 9 144 5 s Tryz.underlying9 Tryz.underlying144 Tryz.underlying5
  have hsl : s.data.toList.length = s.size := by simp
  have hge := grownCap_ge W s.size 0 5
  have hcm := grownCap_le_maxLen W s.size 0 5 (by unfold maxLen; omega)
  have hbs : (bytesRow s (grownCap W s.size 0 5)).size = grownCap W s.size 0 5 := by
    unfold bytesRow
    have : s.data.size = s.size := rfl
    simp [this]; omega
  refine ⟨_, _, hr, ⟨W.heap.size, _, _, _, by rw [hsl], Nat.le_refl _, heap_alloc_new W.drew _, ?_, by rw [hsl]; exact hge, hcm, hbs, ?_⟩, (Below.refl _ W).drew.alloc (Nat.le_refl _) _⟩
  · intro j _ h2 h3
    simp only at h3
    omega
  · rw [hsl]
    unfold bytesRow
    simp only [Array.toList_append, Array.toList_map]
    have e : s.size = (s.data.toList.map fun b => Value.int .u8 (b.toNat : Int)).length := by simp
    rw [e, List.take_left]
    rfl
end Go.Proofs.YtobpidmlgldnmaaGreatDoor
