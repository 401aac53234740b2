/-
  Joined: Ze, Zd, Zg.
-/
import Derived.Test.YtflcibmjblioaaaGreatDoorVi
import Derived.Test.YtflcibmjblioaaaGreatDoorVs
import Derived.Test.YtflcibmjblioaaaGreatDoorRc
import Derived.Test.YtflcibmjblioaaaGreatDoorVd5
import Derived.Test.YtflcibmjblioaaaGreatDoorYu

/-
  Reading, the document's answer: lists.
-/
namespace Go.Proofs.YtflcibmjblioaaaGreatDoor
open Go.RowKit
set_option maxRecDepth 100000

/-- A list that the answer is reading: its result's block, the list's block, its row, the values. -/
structure RowA (w wr : World) (d : Nat) (t : Value) (O : List VC) : Prop where
  below : Below w.heap.size w wr
  box : At wr w.heap.size 40 (vc 0 0 ⟨#[]⟩)
  vbox : At wr (w.heap.size + 1) 40 #[.int .i64 5, .int .i64 0, .string ⟨#[]⟩, t, .slice none 0 0]
  own : wr.ownsRow (w.heap.size + 2) 40 5 t O.length (flatV O)
  reps : ∀ o ∈ O, RepIn (Room (w.heap.size + 2) wr t) d wr o.1 o.2
theorem RowA.size {w a : World} {d : Nat} {t : Value} {O : List VC} (h : RowA w a d t O) : w.heap.size + 2 ≤ a.heap.size := At.lt h.vbox
theorem RowA.later {w a b : World} {d : Nat} {t : Value} {O : List VC} (h : RowA w a d t O) (m : Below a.heap.size a b) : RowA w b d t O := by
  have hs := h.size
  refine ⟨h.below.trans (m.mono (by omega)), At.later h.box m, At.later h.vbox m, ?_, fun o ho => ?_⟩
  · refine World.ownsRow.kept h.own (row := none) ⟨m.os, m.tape, m.output, m.size, fun k hk _ => m.block k hk⟩ ?_
    cases hv : t.ownBlock with
    | none => exact .inl rfl
    | some g => exact .inr (by simp)
  · exact ((h.reps o ho).agree m.size fun b hb => m.block b hb.2.1).mono fun b hb => ⟨hb.1, Nat.lt_of_lt_of_le hb.2.1 m.size, hb.2.2⟩
theorem RowA.grow {w a b : World} {d : Nat} {t t' : Value} {O : List VC} {x : V} {c : List Value} {o1 o2 : Obj} {w2 : World} (h : RowA w a d t O) (m : Below a.heap.size a b)
    (hx : RepIn (fun g => a.heap.size ≤ g ∧ g < b.heap.size) d b x c) (hown : w2.ownsRow (w.heap.size + 2) 40 5 t' (O.length + 1) (flatV O ++ c)) (hg : ((b.alloc o1).alloc o2).grownBy w2 t.ownBlock)
    (hat : t'.ownBlock = t.ownBlock ∨ t'.ownBlock = some ((b.alloc o1).alloc o2).heap.size) : RowA w (w2.setCell ⟨w.heap.size + 1, 3, none⟩ t') d t' (O ++ [(x, c)]) := by
  have hb := h.later m
  have hbs := hb.size
  have has := h.size
  have hsz := hg.size
  have hsz2 : b.heap.size + 2 ≤ w2.heap.size := by simp at hsz; omega
  have same : ∀ k, k < b.heap.size → some k ≠ t.ownBlock → w2.heap[k]? = b.heap[k]? := fun k hk hne => by
    rw [hg.block k (by simp; omega) hne, heap_alloc_old _ _ (by simp; omega), heap_alloc_old _ _ hk]
  have low : ∀ k, k < w.heap.size + 2 → some k ≠ t.ownBlock := fun k hk e => by
    have := (hb.own.lt k e.symm).1; omega
  have hW : Below w.heap.size w w2 := ⟨hg.os.trans hb.below.os, hg.tape.trans hb.below.tape, hg.output.trans hb.below.output, by omega, fun k hk => by
    rw [same k (by omega) (low k (by omega))]; exact hb.below.block k hk⟩
  have sz : (w2.setCell ⟨w.heap.size + 1, 3, none⟩ t').heap.size = w2.heap.size := by simp [World.setCell]
  have oth : ∀ k, k ≠ w.heap.size + 1 → (w2.setCell ⟨w.heap.size + 1, 3, none⟩ t').heap[k]? = w2.heap[k]? := fun k hk => Below.heap_setCell _ _ _ _ hk
  refine ⟨hW.setCell (p := ⟨w.heap.size + 1, 3, none⟩) (by simp) _, ?_, ?_, ?_, ?_⟩
  · exact (oth _ (by omega)).trans ((same _ (by omega) (low _ (by omega))).trans hb.box)
  · have hv : At w2 (w.heap.size + 1) 40 #[.int .i64 5, .int .i64 0, .string ⟨#[]⟩, t, .slice none 0 0] := (same _ (by omega) (low _ (by omega))).trans hb.vbox
    exact heap_setCell_same w2 _ 3 _ _ t' hv
  · rw [List.length_append, flatV_append, flatV_one]
    refine World.ownsRow.kept hown (row := some (w.heap.size + 1)) ⟨rfl, rfl, rfl, by rw [sz]; exact Nat.le_refl _, fun k hk hne => oth k (fun e => hne (by rw [e]))⟩ ?_
    cases hv : t'.ownBlock with
    | none => exact .inl rfl
    | some g => exact .inr (fun e => by cases e; have := (hown.lt _ hv).1; omega)
  · intro o ho
    have new : ∀ k, k < b.heap.size → some k ≠ t.ownBlock → some k ≠ t'.ownBlock := fun k hk hne => by
      rcases hat with e | e
      · rw [e]; exact hne
      · rw [e]; intro e'; injection e' with e'; simp at e'; omega
    rcases List.mem_append.1 ho with ho | ho
    · refine ((hb.reps o ho).agree (by rw [sz]; omega) fun k hk => ?_).mono fun k hk => ⟨hk.1, by rw [sz]; have := hk.2.1; omega, new k hk.2.1 hk.2.2⟩
      rw [oth k (by have := hk.1; omega)]; exact same k hk.2.1 hk.2.2
    · rw [List.mem_singleton.1 ho]
      have apart : ∀ k, a.heap.size ≤ k → some k ≠ t.ownBlock := fun k hk e => by have := (h.own.lt k e.symm).2; omega
      refine (hx.agree (by rw [sz]; omega) fun k hk => ?_).mono fun k hk => ⟨by have := hk.1; omega, by rw [sz]; have := hk.2; omega, new k hk.2 (apart k hk.1)⟩
      rw [oth k (by have := hk.1; omega)]; exact same k hk.2 (apart k hk.1)
theorem RowA.rep {w a : World} {d : Nat} {t : Value} {O : List VC} (h : RowA w a d t O) (hl : O.length ≤ 1000) :
    RepIn (fun b => w.heap.size + 2 ≤ b ∧ b < a.heap.size) (d + 1) a ⟨5, 0, eB, O.map (·.1), []⟩ [.int .i64 5, .int .i64 0, .string eB, t, .slice none 0 0] :=
  repIn_list h.own h.reps hl (fun _ hb => ⟨hb.1, hb.2.1⟩) (fun g hg => h.own.lt g hg)
theorem RowA.fill {w a : World} {d : Nat} {t : Value} {O : List VC} (h : RowA w a d t O) (hl : O.length ≤ 1000) (v0 v1 v2 v3 v4 : Value) {wf : World} (hf : wf = set5 a w.heap.size v0 v1 v2 v3 v4) :
    Below w.heap.size w wf ∧ At wf w.heap.size 40 #[v0, v1, v2, v3, v4] ∧ RepIn (fun b => w.heap.size ≤ b ∧ b < wf.heap.size) (d + 1) wf ⟨5, 0, eB, O.map (·.1), []⟩ [.int .i64 5, .int .i64 0, .string eB, t, .slice none 0 0] := by
  subst hf
  refine ⟨below_set5 h.below (Nat.le_refl _) _ _ _ _ _, At.five h.box _ _ _ _ _, ?_⟩
  refine ((h.rep hl).agree (by rw [set5_size]; exact Nat.le_refl _) fun b hb => set5_other _ _ _ _ _ _ _ (by have := hb.1; omega)).mono fun b hb => ⟨by have := hb.1; omega, by rw [set5_size]; exact hb.2⟩
theorem RowA.cells {w a : World} {d : Nat} {t : Value} {O : List VC} (h : RowA w a d t O) :
    (a.cell? ⟨w.heap.size + 1, 0, none⟩ = some (.int .i64 5) ∧ a.cell? ⟨w.heap.size + 1, 1, none⟩ = some (.int .i64 0) ∧ a.cell? ⟨w.heap.size + 1, 2, none⟩ = some (.string ⟨#[]⟩) ∧ a.cell? ⟨w.heap.size + 1, 3, none⟩ = some t ∧ a.cell? ⟨w.heap.size + 1, 4, none⟩ = some (.slice none 0 0)) ∧ a.frozen? ⟨w.heap.size + 1, 3, none⟩ = false :=
  ⟨⟨At.cell h.vbox 0, At.cell h.vbox 1, At.cell h.vbox 2, At.cell h.vbox 3, At.cell h.vbox 4⟩, At.free h.vbox 3⟩
theorem RowA.vkept {w b w2 : World} {d : Nat} {t : Value} {O : List VC} {o1 o2 : Obj} (h : RowA w b d t O) (hg : ((b.alloc o1).alloc o2).grownBy w2 t.ownBlock) :
    At w2 (w.heap.size + 1) 40 #[.int .i64 5, .int .i64 0, .string ⟨#[]⟩, t, .slice none 0 0] ∧ At w2 w.heap.size 40 (vc 0 0 ⟨#[]⟩) := by
  have hs := h.size
  have same : ∀ k, k < w.heap.size + 2 → w2.heap[k]? = b.heap[k]? := fun k hk => by
    rw [hg.block k (by simp; omega) (fun e => by have := (h.own.lt k e.symm).1; omega), heap_alloc_old _ _ (by simp; omega), heap_alloc_old _ _ (by omega)]
  exact ⟨(same _ (by omega)).trans h.vbox, (same _ (by omega)).trans h.box⟩
end Go.Proofs.YtflcibmjblioaaaGreatDoor

/-
  A field that is set, by the document's answer: where the fields of the new row come from.
-/
namespace Go.Proofs.YtflcibmjblioaaaGreatDoor
open Go.RowKit
set_option maxRecDepth 100000

/-- How far setting has come; what was laid has the property G. -/
structure LayG (G : FC → Prop) (wb : World) (name : ByteArray) (x : V) (f : List (ByteArray × V)) (t : Value) (laid : Bool) (j : Nat) (wr : World) (O : List FC) : Prop where
  own : wr.ownsRow wb.heap.size 74 6 t O.length (flatO O)
  ok : ∀ o ∈ O, G o
  below : Below wb.heap.size wb wr
  eq : O.map (·.1) ++ rsetF name x (f.drop j) laid = rsetF name x f false
  len : O.length ≤ j + 1
  len0 : laid = false → O.length ≤ j
theorem LayG.grow {G : FC → Prop} {wb : World} {name : ByteArray} {x : V} {f : List (ByteArray × V)} {t t' : Value} {laid laid' : Bool} {j j' : Nat} {wr w2 : World} {O : List FC} (h : LayG G wb name x f t laid j wr O) (o : FC) (ho : G o) {ob : Obj}
    (hown : w2.ownsRow wb.heap.size 74 6 t' (O.length + 1) (flatO O ++ o.cells)) (hg : (wr.alloc ob).grownBy w2 t.ownBlock) (he : O.map (·.1) ++ [o.1] ++ rsetF name x (f.drop j') laid' = rsetF name x f false) (hl : O.length + 1 ≤ j' + 1) (hl0 : laid' = false → O.length + 1 ≤ j') : LayG G wb name x f t' laid' j' w2 (O ++ [o]) := by
  refine ⟨?_, ?_, ?_, ?_, ?_, ?_⟩
  · rw [List.length_append, flatO_append, flatO_one]; exact hown
  · intro p hp
    rcases List.mem_append.1 hp with hp | hp
    · exact h.ok p hp
    · rw [List.mem_singleton.1 hp]; exact ho
  · exact (h.below.alloc h.below.size _).grown hg (by have := h.below.size; simp; omega) (fun k hk => (h.own.lt k hk).1)
  · rw [List.map_append]; exact he
  · rw [List.length_append]; exact hl
  · intro h; rw [List.length_append]; exact hl0 h
theorem ownsRow_base {w : World} {a b : Nat} {e : TypeId} {size : Nat} {v : Value} {n : Nat} {xs : List Value} (h : w.ownsRow b e size v n xs) (hab : a ≤ b) : w.ownsRow a e size v n xs := by
  obtain ⟨h1, h2 | ⟨g, cap, cur, r1, r2, r3⟩⟩ := h
  · exact ⟨h1, .inl h2⟩
  · exact ⟨h1, .inr ⟨g, cap, cur, r1, Nat.le_trans hab r2, r3⟩⟩
end Go.Proofs.YtflcibmjblioaaaGreatDoor

/-
  Reading, the document's answer: a dictionary that is being read.
-/
namespace Go.Proofs.YtflcibmjblioaaaGreatDoor
open Go.RowKit
set_option maxRecDepth 100000

/-- A dictionary that the answer is reading. -/
structure DictA (w wr : World) (d : Nat) (t : Value) (O : List FC) : Prop where
  below : Below w.heap.size w wr
  box : At wr w.heap.size 40 (vc 0 0 ⟨#[]⟩)
  vbox : At wr (w.heap.size + 1) 40 #[.int .i64 6, .int .i64 0, .string ⟨#[]⟩, .slice none 0 0, t]
  own : wr.ownsRow (w.heap.size + 2) 74 6 t O.length (flatO O)
  reps : ∀ o ∈ O, o.1.1.size ≤ 200 ∧ RepIn (fun b => w.heap.size + 2 ≤ b ∧ b < wr.heap.size) d wr o.1.2 o.2
theorem DictA.size {w a : World} {d : Nat} {t : Value} {O : List FC} (h : DictA w a d t O) : w.heap.size + 2 ≤ a.heap.size := At.lt h.vbox
theorem ownsRow_later {a b : World} {base : Nat} {T : TypeId} {n m : Nat} {t : Value} {xs : List Value} (h : a.ownsRow base T n t m xs) (hb : Below a.heap.size a b) : b.ownsRow base T n t m xs := by
  refine World.ownsRow.kept h (row := none) ⟨hb.os, hb.tape, hb.output, hb.size, fun k hk _ => hb.block k hk⟩ ?_
  cases hv : t.ownBlock with
  | none => exact .inl rfl
  | some g => exact .inr (by simp)
theorem DictA.later {w a b : World} {d : Nat} {t : Value} {O : List FC} (h : DictA w a d t O) (m : Below a.heap.size a b) : DictA w b d t O := by
  have hs := h.size
  refine ⟨h.below.trans (m.mono (by omega)), At.later h.box m, At.later h.vbox m, ownsRow_later h.own m, fun o ho => ⟨(h.reps o ho).1, ?_⟩⟩
  exact ((h.reps o ho).2.agree m.size fun b hb => m.block b hb.2).mono fun b hb => ⟨hb.1, Nat.lt_of_lt_of_le hb.2 m.size⟩
theorem DictA.cells {w a : World} {d : Nat} {t : Value} {O : List FC} (h : DictA w a d t O) :
    (a.cell? ⟨w.heap.size + 1, 0, none⟩ = some (.int .i64 6) ∧ a.cell? ⟨w.heap.size + 1, 1, none⟩ = some (.int .i64 0) ∧ a.cell? ⟨w.heap.size + 1, 2, none⟩ = some (.string ⟨#[]⟩) ∧ a.cell? ⟨w.heap.size + 1, 3, none⟩ = some (.slice none 0 0) ∧ a.cell? ⟨w.heap.size + 1, 4, none⟩ = some t) ∧
    (a.frozen? ⟨w.heap.size + 1, 0, none⟩ = false ∧ a.frozen? ⟨w.heap.size + 1, 1, none⟩ = false ∧ a.frozen? ⟨w.heap.size + 1, 2, none⟩ = false ∧ a.frozen? ⟨w.heap.size + 1, 3, none⟩ = false ∧ a.frozen? ⟨w.heap.size + 1, 4, none⟩ = false) := five_cells h.vbox
theorem DictA.rep {w a : World} {d : Nat} {t : Value} {O : List FC} (h : DictA w a d t O) (hl : O.length ≤ 1000) :
    RepIn (fun b => w.heap.size + 2 ≤ b ∧ b < a.heap.size) (d + 1) a ⟨6, 0, eB, [], O.map (·.1)⟩ [.int .i64 6, .int .i64 0, .string eB, .slice none 0 0, t] :=
  repIn_dict h.own h.reps hl (fun _ hb => hb) (fun g hg => h.own.lt g hg)
theorem DictA.fill {w a : World} {d : Nat} {t : Value} {O : List FC} (h : DictA w a d t O) (hl : O.length ≤ 1000) (v0 v1 v2 v3 v4 : Value) {wf : World} (hf : wf = set5 a w.heap.size v0 v1 v2 v3 v4) :
    Below w.heap.size w wf ∧ At wf w.heap.size 40 #[v0, v1, v2, v3, v4] ∧ RepIn (fun b => w.heap.size ≤ b ∧ b < wf.heap.size) (d + 1) wf ⟨6, 0, eB, [], O.map (·.1)⟩ [.int .i64 6, .int .i64 0, .string eB, .slice none 0 0, t] := by
  subst hf
  refine ⟨below_set5 h.below (Nat.le_refl _) _ _ _ _ _, At.five h.box _ _ _ _ _, ?_⟩
  refine ((h.rep hl).agree (by rw [set5_size]; exact Nat.le_refl _) fun b hb => set5_other _ _ _ _ _ _ _ (by have := hb.1; omega)).mono fun b hb => ⟨by have := hb.1; omega, by rw [set5_size]; exact hb.2⟩
/-- The dictionary's block holds a new row. -/
theorem DictA.set {w a b wz : World} {d : Nat} {t t' : Value} {O O' : List FC} (h : DictA w a d t O) (m : Below a.heap.size a b) (hown : b.ownsRow a.heap.size 74 6 t' O'.length (flatO O')) (hG : ∀ o ∈ O', o.1.1.size ≤ 200 ∧ RepIn (fun g => w.heap.size + 2 ≤ g ∧ g < a.heap.size) d a o.1.2 o.2)
    (h1 : Below w.heap.size w wz) (hos : wz.os = b.os ∧ wz.tape = b.tape ∧ wz.output = b.output) (sz : wz.heap.size = b.heap.size) (oth : ∀ k, k ≠ w.heap.size + 1 → wz.heap[k]? = b.heap[k]?) (h3 : At wz (w.heap.size + 1) 40 #[.int .i64 6, .int .i64 0, .string ⟨#[]⟩, .slice none 0 0, t']) : DictA w wz d t' O' := by
  have has := h.size
  have hb := h.later m
  have hms := m.size
  refine ⟨h1, (oth w.heap.size (by omega)).trans hb.box, h3, ?_, fun o ho => ⟨(hG o ho).1, ?_⟩⟩
  · refine ownsRow_base (World.ownsRow.kept hown (row := some (w.heap.size + 1)) ⟨hos.1, hos.2.1, hos.2.2, by rw [sz]; exact Nat.le_refl _, fun k hk hne => oth k (fun e => hne (by rw [e]))⟩ ?_) has
    cases hv : t'.ownBlock with
    | none => exact .inl rfl
    | some g => exact .inr (fun e => by cases e; have := (hown.lt _ hv).1; omega)
  · refine ((hG o ho).2.agree (by rw [sz]; exact hms) fun k hk => ?_).mono fun k hk => ⟨hk.1, by rw [sz]; have := hk.2; omega⟩
    rw [oth k (by have := hk.1; omega)]; exact m.block k hk.2
end Go.Proofs.YtflcibmjblioaaaGreatDoor
