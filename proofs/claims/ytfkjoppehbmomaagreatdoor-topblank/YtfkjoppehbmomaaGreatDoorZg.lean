/-
  Reading, the document's answer: a dictionary that is being read.
-/
import Derived.Test.YtfkjoppehbmomaaGreatDoorZd
import Derived.Test.YtfkjoppehbmomaaGreatDoorZf
namespace Go.Proofs.YtfkjoppehbmomaaGreatDoor
open Go.RowKit
set_option maxRecDepth 100000

theorem rsetF_len (name : ByteArray) (x : V) : ∀ (l : List (ByteArray × V)) (b : Bool), (getF name l).isSome = false → (rsetF name x l b).length = l.length + (if b then 0 else 1)
  | [], b, _ => by cases b <;> simp [rsetF]
  | q :: l, b, h => by
    have hn : (q.1.toList == name.toList) = false := by
      cases hh : (q.1.toList == name.toList)
      · rfl
      · rw [getF_some (i := 0) (q := q) rfl hh (fun j s hj => by omega)] at h; cases h
    have hl : (getF name l).isSome = false := by
      rw [getF, hn] at h; exact h
    have ih := rsetF_len name x l (b || leB name q.1) hl
    rw [rsetF, hn]
    simp only [List.length_append, ih]
    cases b <;> cases leB name q.1 <;> simp <;> omega
/-- A dictionary that the answer is reading. -/
structure DictA (w wr : World) (d : Nat) (t : Value) (O : List FC) : Prop where
  below : Below w.heap.size w wr
  box : At wr w.heap.size 26 (vc 0 0 ⟨#[]⟩)
  vbox : At wr (w.heap.size + 1) 26 #[.int .i64 6, .int .i64 0, .string ⟨#[]⟩, .slice none 0 0, t]
  own : wr.ownsRow (w.heap.size + 2) 54 6 t O.length (flatO O)
  reps : ∀ o ∈ O, o.1.1.size ≤ 200 ∧ RepIn (fun b => w.heap.size + 2 ≤ b ∧ b < wr.heap.size) d wr o.1.2 o.2
theorem DictA.size {w a : World} {d : Nat} {t : Value} {O : List FC} (h : DictA w a d t O) : w.heap.size + 2 ≤ a.heap.size := At.lt h.vbox
theorem ownsRow_later {a b : World} {base : Nat} {T : TypeId} {n m : Nat} {t : Value} {xs : List Value} (h : a.ownsRow base T n t m xs) (hb : Below a.heap.size a b) : b.ownsRow base T n t m xs := by
  refine World.ownsRow.kept h (row := none) ⟨hb.os, hb.tape, hb.output, hb.size, fun k hk _ => hb.block k hk⟩ ?_
  cases hv : t.ownBlock with
  | none => exact .inl rfl
  | some g => exact .inr (by simp)
theorem DictA.later {w a b : World} {d : Nat} {t : Value} {O : List FC} (h : DictA w a d t O) (m : Below a.heap.size a b) : DictA w b d t O := by
  have hs := h.size
  refine ⟨h.below.trans (m.mono (by omega)), At.later h.box m, At.later h.vbox m, ownsRow_later h.own m, fun o ho => ⟨(h.reps o ho).1, ?_⟩⟩
  exact ((h.reps o ho).2.agree m.size fun b hb => m.block b hb.2).mono fun b hb => ⟨hb.1, Nat.lt_of_lt_of_le hb.2 m.size⟩
theorem DictA.cells {w a : World} {d : Nat} {t : Value} {O : List FC} (h : DictA w a d t O) :
    (a.cell? ⟨w.heap.size + 1, 0, none⟩ = some (.int .i64 6) ∧ a.cell? ⟨w.heap.size + 1, 1, none⟩ = some (.int .i64 0) ∧ a.cell? ⟨w.heap.size + 1, 2, none⟩ = some (.string ⟨#[]⟩) ∧ a.cell? ⟨w.heap.size + 1, 3, none⟩ = some (.slice none 0 0) ∧ a.cell? ⟨w.heap.size + 1, 4, none⟩ = some t) ∧
    (a.frozen? ⟨w.heap.size + 1, 0, none⟩ = false ∧ a.frozen? ⟨w.heap.size + 1, 1, none⟩ = false ∧ a.frozen? ⟨w.heap.size + 1, 2, none⟩ = false ∧ a.frozen? ⟨w.heap.size + 1, 3, none⟩ = false ∧ a.frozen? ⟨w.heap.size + 1, 4, none⟩ = false) := five_cells h.vbox
theorem DictA.rep {w a : World} {d : Nat} {t : Value} {O : List FC} (h : DictA w a d t O) (hl : O.length ≤ 1000) :
    RepIn (fun b => w.heap.size + 2 ≤ b ∧ b < a.heap.size) (d + 1) a ⟨6, 0, eB, [], O.map (·.1)⟩ [.int .i64 6, .int .i64 0, .string eB, .slice none 0 0, t] :=
  repIn_dict h.own h.reps hl (fun _ hb => hb) (fun g hg => h.own.lt g hg)
theorem DictA.fill {w a : World} {d : Nat} {t : Value} {O : List FC} (h : DictA w a d t O) (hl : O.length ≤ 1000) (v0 v1 v2 v3 v4 : Value) {wf : World} (hf : wf = set5 a w.heap.size v0 v1 v2 v3 v4) :
    Below w.heap.size w wf ∧ At wf w.heap.size 26 #[v0, v1, v2, v3, v4] ∧ RepIn (fun b => w.heap.size ≤ b ∧ b < wf.heap.size) (d + 1) wf ⟨6, 0, eB, [], O.map (·.1)⟩ [.int .i64 6, .int .i64 0, .string eB, .slice none 0 0, t] := by
  subst hf
  refine ⟨below_set5 h.below (Nat.le_refl _) _ _ _ _ _, At.five h.box _ _ _ _ _, ?_⟩
  refine ((h.rep hl).agree (by rw [set5_size]; exact Nat.le_refl _) fun b hb => set5_other _ _ _ _ _ _ _ (by have := hb.1; omega)).mono fun b hb => ⟨by have := hb.1; omega, by rw [set5_size]; exact hb.2⟩
/-- The dictionary's block holds a new row. -/
theorem DictA.set {w a b wz : World} {d : Nat} {t t' : Value} {O O' : List FC} (h : DictA w a d t O) (m : Below a.heap.size a b) (hown : b.ownsRow a.heap.size 54 6 t' O'.length (flatO O')) (hG : ∀ o ∈ O', o.1.1.size ≤ 200 ∧ RepIn (fun g => w.heap.size + 2 ≤ g ∧ g < a.heap.size) d a o.1.2 o.2)
    (h1 : Below w.heap.size w wz) (hos : wz.os = b.os ∧ wz.tape = b.tape ∧ wz.output = b.output) (sz : wz.heap.size = b.heap.size) (oth : ∀ k, k ≠ w.heap.size + 1 → wz.heap[k]? = b.heap[k]?) (h3 : At wz (w.heap.size + 1) 26 #[.int .i64 6, .int .i64 0, .string ⟨#[]⟩, .slice none 0 0, t']) : DictA w wz d t' O' := by
  have has := h.size
  have hb := h.later m
  have hms := m.size
  refine ⟨h1, (oth w.heap.size (by omega)).trans hb.box, h3, ?_, fun o ho => ⟨(hG o ho).1, ?_⟩⟩
  · refine ownsRow_base (World.ownsRow.kept hown (row := some (w.heap.size + 1)) ⟨hos.1, hos.2.1, hos.2.2, by rw [sz]; exact Nat.le_refl _, fun k hk hne => oth k (fun e => hne (by rw [e]))⟩ ?_) has
    cases hv : t'.ownBlock with
    | none => exact .inl rfl
    | some g => exact .inr (fun e => by cases e; have := (hown.lt _ hv).1; omega)
  · refine ((hG o ho).2.agree (by rw [sz]; exact hms) fun k hk => ?_).mono fun k hk => ⟨hk.1, by rw [sz]; have := hk.2; omega⟩
    rw [oth k (by have := hk.1; omega)]; exact m.block k hk.2
set_option maxHeartbeats 1000000 in
/-- A field that is set in a dictionary that is being read. -/
theorem dSet {w a : World} {d : Nat} {al : Option Addr} {cl : Nat} {O : List FC} {x : V} {cx : List Value} (name : ByteArray) (hO : O.length ≤ 300) (hn : name.size ≤ 200) (h : DictA w a d (.slice al O.length cl) O) (hx : RepIn (fun g => w.heap.size + 2 ≤ g ∧ g < a.heap.size) d a x cx) (hg : (getF name (O.map (·.1))).isSome = false) :
    Calls Tryz.prog 87 #[.agg #[.int .i64 6, .int .i64 0, .string ⟨#[]⟩, .slice none 0 0, .slice al O.length cl], .string name, .agg cx.toArray] a fun r b => ∃ (af : Option Addr) (cf : Nat) (O' : List FC), r = .returned (.agg #[.int .i64 6, .int .i64 0, .string ⟨#[]⟩, .slice none 0 0, .slice af (O.length + 1) cf]) ∧
      Below a.heap.size a b ∧ Hid (O'.map (·.1) = rsetF name x (O.map (·.1)) false ∧ O'.length = O.length + 1 ∧ DictA w (b.setRow (w.heap.size + 1) #[.int .i64 6, .int .i64 0, .string ⟨#[]⟩, .slice none 0 0, .slice af (O.length + 1) cf]) d (.slice af (O.length + 1) cf) O') := by
  have hv := (h.rep (by omega)).now
  have q := rSetG (e := d) (v := ⟨6, 0, eB, [], O.map (·.1)⟩) (x := x) (fun o => o.1.1.size ≤ 200 ∧ RepIn (fun g => w.heap.size + 2 ≤ g ∧ g < a.heap.size) d a o.1.2 o.2) name hv (hx.now.mono (by omega)) (by simp; omega) ⟨hn, hx⟩ (fun j q b off al' cl' cf' c hcs hq hc hlen => by
    have hq' : (O.map (·.1))[j]? = some q := hq
    rw [List.getElem?_map, Option.map_eq_some_iff] at hq'
    obtain ⟨o, ho, rfl⟩ := hq'
    have hj := (List.getElem?_eq_some_iff.1 ho).1
    have hm := List.mem_of_getElem? ho
    have hok : ∀ o ∈ O, o.ok d a := fun o ho => ⟨by have := (h.reps o ho).1; unfold maxLen; omega, (h.reps o ho).2.now⟩
    have e : o.2 = c := by
      obtain ⟨_, h0 | ⟨g, cap, cur, r1, _⟩⟩ := h.own
      · have := h0.2; omega
      · injection r1 with r1 _ _
        have hal : al = some ⟨b, off, none⟩ := by
          simp only [List.cons.injEq, Value.slice.injEq] at hcs
          exact hcs.2.2.2.2.1.1
        rw [hal] at r1
        injection r1 with r1
        injection r1 with r1 r2
        have cell : ∀ i, i < 6 → a.cell? ⟨g, j * 6 + i, none⟩ = o.cells[i]? := fun i hi => by
          have hc2 := h.own
          rw [hal, r1, r2] at hc2
          rw [hc2.cellAt _ (by omega), flatO_get hok ho i hi]
        apply List.ext_getElem?
        intro i
        by_cases hi : i < 5
        · have hci : c[i]? = some c[i] := List.getElem?_eq_getElem (by omega)
          have e1 := hc i _ hci
          rw [r1, r2, show 0 + j * 6 + 1 + i = j * 6 + (1 + i) by omega, cell (1 + i) (by omega)] at e1
          have e3 : o.cells[1 + i]? = o.2[i]? := by rw [Nat.add_comm]; simp [FC.cells]
          rw [hci, ← e1, e3]
        · rw [List.getElem?_eq_none (by rw [rep_len (hok o hm).2]; omega), List.getElem?_eq_none (by omega)]
    subst e
    exact h.reps o hm)
  refine q.mono ?_
  rintro r b ⟨⟨al', af, cl', cf, O', hr, ⟨af0, cf0, hcs⟩, hown, hO', hG⟩, hb⟩
  have hal : al' = none ∧ cl' = 0 := by
    simp only [List.cons.injEq, Value.slice.injEq] at hcs
    exact ⟨hcs.2.2.2.1.1.symm, hcs.2.2.2.1.2.2.symm⟩
  obtain ⟨rfl, rfl⟩ := hal
  have hl : O'.length = O.length + 1 := by
    have := congrArg List.length hO'
    rw [List.length_map, rsetF_len _ _ _ _ hg] at this
    simpa using this
  rw [hl] at hr hown
  refine ⟨af, cf, O', hr, hb, hid ⟨hO', hl, ?_⟩⟩
  have hB := h.later hb
  have z1 : Below w.heap.size w (b.setRow (w.heap.size + 1) #[.int .i64 6, .int .i64 0, .string ⟨#[]⟩, .slice none 0 0, .slice af (O.length + 1) cf]) := below_setRow hB.below (by omega) _
  have z2 : (b.setRow (w.heap.size + 1) #[.int .i64 6, .int .i64 0, .string ⟨#[]⟩, .slice none 0 0, .slice af (O.length + 1) cf]).heap.size = b.heap.size := by simp [World.setRow]
  have z3 : ∀ k, k ≠ w.heap.size + 1 → (b.setRow (w.heap.size + 1) #[.int .i64 6, .int .i64 0, .string ⟨#[]⟩, .slice none 0 0, .slice af (O.length + 1) cf]).heap[k]? = b.heap[k]? := fun k hk => setRow_other b (w.heap.size + 1) k _ hk
  have z4 := At.setRow hB.vbox #[.int .i64 6, .int .i64 0, .string ⟨#[]⟩, .slice none 0 0, .slice af (O.length + 1) cf]
  have z5 : (b.setRow (w.heap.size + 1) #[.int .i64 6, .int .i64 0, .string ⟨#[]⟩, .slice none 0 0, .slice af (O.length + 1) cf]).os = b.os ∧ (b.setRow (w.heap.size + 1) #[.int .i64 6, .int .i64 0, .string ⟨#[]⟩, .slice none 0 0, .slice af (O.length + 1) cf]).tape = b.tape ∧ (b.setRow (w.heap.size + 1) #[.int .i64 6, .int .i64 0, .string ⟨#[]⟩, .slice none 0 0, .slice af (O.length + 1) cf]).output = b.output := ⟨rfl, rfl, rfl⟩
  generalize b.setRow (w.heap.size + 1) #[.int .i64 6, .int .i64 0, .string ⟨#[]⟩, .slice none 0 0, .slice af (O.length + 1) cf] = wz at z1 z2 z3 z4 z5 ⊢
  exact h.set hb (by rw [hl]; exact hown) hG z1 z5 z2 z3 z4
end Go.Proofs.YtfkjoppehbmomaaGreatDoor
