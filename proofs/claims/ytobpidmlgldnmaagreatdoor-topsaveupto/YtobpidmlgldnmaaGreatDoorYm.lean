/-
  Joined: Vd4, Vd5, Ym.
-/
import Derived.Test.YtobpidmlgldnmaaGreatDoorVd3
import Derived.Test.YtobpidmlgldnmaaGreatDoorVe

/-
  A field that is set: the document's own answer.
-/
namespace Go.Proofs.YtobpidmlgldnmaaGreatDoor
open Go.RowKit
set_option maxRecDepth 100000

/-- Fields, and the cells of their values. -/
abbrev FC := (ByteArray × V) × List Value
def FC.cells (o : FC) : List Value := .string o.1.1 :: o.2
def FC.ok (d : Nat) (w : World) (o : FC) : Prop := o.1.1.size ≤ maxLen ∧ RepN d w o.1.2 o.2
def flatO (O : List FC) : List Value := O.flatMap FC.cells
theorem flatO_append (O O' : List FC) : flatO (O ++ O') = flatO O ++ flatO O' := List.flatMap_append
theorem flatO_one (o : FC) : flatO [o] = o.cells := by simp [flatO]
theorem FC.len {d : Nat} {w : World} {o : FC} (h : o.ok d w) : o.cells.length = 6 := by simp [FC.cells, rep_len h.2]
theorem flatO_get {d : Nat} {w : World} : ∀ {O : List FC} {i : Nat} {o : FC}, (∀ o ∈ O, o.ok d w) → O[i]? = some o → ∀ j, j < 6 → (flatO O)[i * 6 + j]? = o.cells[j]?
  | [], i, o, _, h, _, _ => by simp at h
  | p :: O, 0, o, hk, h, j, hj => by
    simp at h; subst h
    have := FC.len (hk p (by simp))
    rw [flatO, List.flatMap_cons, List.getElem?_append_left (by omega)]; simp
  | p :: O, i + 1, o, hk, h, j, hj => by
    have h1 := FC.len (hk p (by simp))
    have ih := flatO_get (O := O) (fun q hq => hk q (by simp [hq])) (show O[i]? = some o by simpa using h) j hj
    rw [flatO, List.flatMap_cons, List.getElem?_append_right (by omega), h1, show (i + 1) * 6 + j - 6 = i * 6 + j by omega]
    exact ih
/-- A row of fields that a call owns is a list of fields. -/
theorem own_fields {d base : Nat} {w wr : World} {t : Value} {O : List FC} (h : wr.ownsRow base 111 6 t O.length (flatO O)) (hk : ∀ o ∈ O, o.ok d w) (hb : Below w.heap.size w wr) :
    ∃ af cf, t = .slice af O.length cf ∧ FAt d wr (O.map (·.1)) af := by
  rcases h.2 with ⟨rfl, h0⟩ | ⟨g, cap, cur, rfl, _, hg, _⟩
  · refine ⟨none, 0, by rw [h0], fun i q hq => ?_⟩
    have : O = [] := List.eq_nil_of_length_eq_zero h0
    subst this; simp at hq
  · refine ⟨_, cap, rfl, fun i q hq => ?_⟩
    rw [List.getElem?_map, Option.map_eq_some_iff] at hq
    obtain ⟨o, ho, rfl⟩ := hq
    have hi := (List.getElem?_eq_some_iff.1 ho).1
    have ok := hk o (List.mem_of_getElem? ho)
    have cell : ∀ j, j < 6 → wr.cell? ⟨g, i * 6 + j, none⟩ = o.cells[j]? := fun j hj => by
      rw [h.cellAt _ (by omega), flatO_get hk ho j hj]
    refine ⟨g, 0, o.2, rfl, (Array.getElem?_eq_some_iff.1 hg).1, ok.1, ?_, fun j c hc => ?_, ok.2.later hb⟩
    · rw [Nat.zero_add]; exact cell 0 (by omega)
    · have hj := (List.getElem?_eq_some_iff.1 hc).1
      rw [rep_len ok.2] at hj
      have := cell (1 + j) (by omega)
      rw [Nat.zero_add, Nat.add_assoc, this, Nat.add_comm 1 j]
      simpa [FC.cells] using hc
theorem news_at {w : World} {cells : Array Value} {vs : List Value} {e : TypeId} (hx : cells = vs.toArray) (j : Nat) (u : Value) (h : vs[j]? = some u) : (w.alloc (.cells cells e)).cell? ((⟨w.heap.size, 0, none⟩ : Addr).add j) = some u := by
  subst hx
  rw [Lib.add_plain, World.cell?_alloc_new]; simpa using h
/-- How far setting has come. -/
structure Laying (d : Nat) (w wb : World) (name : ByteArray) (x : V) (f : List (ByteArray × V)) (t : Value) (laid : Bool) (j : Nat) (wr : World) (O : List FC) : Prop where
  own : wr.ownsRow wb.heap.size 111 6 t O.length (flatO O)
  ok : ∀ o ∈ O, o.ok d w
  below : Below wb.heap.size wb wr
  eq : O.map (·.1) ++ rsetF name x (f.drop j) laid = rsetF name x f false
  len : O.length ≤ j + 1
  len0 : laid = false → O.length ≤ j
end Go.Proofs.YtobpidmlgldnmaaGreatDoor

/-
  A field that is set: the document's own answer, walked.
-/
namespace Go.Proofs.YtobpidmlgldnmaaGreatDoor
open Go.RowKit
set_option maxRecDepth 100000

theorem Laying.grow {d : Nat} {w wb : World} {name : ByteArray} {x : V} {f : List (ByteArray × V)} {t t' : Value} {laid laid' : Bool} {j j' : Nat} {wr w2 : World} {O : List FC} (h : Laying d w wb name x f t laid j wr O) (o : FC) (ho : o.ok d w) {ob : Obj}
    (hown : w2.ownsRow wb.heap.size 111 6 t' (O.length + 1) (flatO O ++ o.cells)) (hg : (wr.alloc ob).grownBy w2 t.ownBlock) (he : O.map (·.1) ++ [o.1] ++ rsetF name x (f.drop j') laid' = rsetF name x f false) (hl : O.length + 1 ≤ j' + 1) (hl0 : laid' = false → O.length + 1 ≤ j') : Laying d w wb name x f t' laid' j' w2 (O ++ [o]) := by
  refine ⟨?_, ?_, ?_, ?_, ?_, ?_⟩
  · rw [List.length_append, flatO_append, flatO_one]; exact hown
  · intro p hp
    rcases List.mem_append.1 hp with hp | hp
    · exact h.ok p hp
    · rw [List.mem_singleton.1 hp]; exact ho
  · exact (h.below.alloc h.below.size _).grown hg (by have := h.below.size; simp; omega) (fun k hk => (h.own.lt k hk).1)
  · rw [List.map_append]; exact he
  · rw [List.length_append]; exact hl
  · intro h; rw [List.length_append]; exact hl0 h
end Go.Proofs.YtobpidmlgldnmaaGreatDoor

/-
  Trees that stand in known blocks; a row of values that a call owns; what reading a list makes.
-/
namespace Go.Proofs.YtobpidmlgldnmaaGreatDoor
open Go.RowKit
set_option maxRecDepth 100000

/-- The cells hold the tree, and go on to hold it as long as these blocks stay. -/
def RepIn (S : Nat → Prop) (d : Nat) (w : World) (v : V) (cs : List Value) : Prop :=
  ∀ w', w.heap.size ≤ w'.heap.size → (∀ b, S b → w'.heap[b]? = w.heap[b]?) → RepN d w' v cs
theorem RepIn.now {S : Nat → Prop} {d : Nat} {w : World} {v : V} {cs : List Value} (h : RepIn S d w v cs) : RepN d w v cs := h w (Nat.le_refl _) fun _ _ => rfl
theorem RepIn.mono {S T : Nat → Prop} {d : Nat} {w : World} {v : V} {cs : List Value} (h : RepIn S d w v cs) (hS : ∀ b, S b → T b) : RepIn T d w v cs :=
  fun w' hs hb => h w' hs fun b hb' => hb b (hS b hb')
theorem RepIn.agree {S : Nat → Prop} {d : Nat} {w w' : World} {v : V} {cs : List Value} (h : RepIn S d w v cs) (hs : w.heap.size ≤ w'.heap.size) (hb : ∀ b, S b → w'.heap[b]? = w.heap[b]?) : RepIn S d w' v cs :=
  fun w2 hs2 hb2 => h w2 (Nat.le_trans hs hs2) fun b hb' => (hb2 b hb').trans (hb b hb')
theorem repIn_vc (S : Nat → Prop) (d : Nat) (w : World) (k n : Int) (s : ByteArray) (hs : s.size ≤ maxLen) : RepIn S (d + 1) w (V0 k n s) (vc k n s).toList :=
  fun w' _ _ => rep_vc d w' k n s hs
/-- Values, and their cells. -/
abbrev VC := V × List Value
def flatV (O : List VC) : List Value := O.flatMap (·.2)
theorem flatV_append (O O' : List VC) : flatV (O ++ O') = flatV O ++ flatV O' := List.flatMap_append
theorem flatV_one (o : VC) : flatV [o] = o.2 := by simp [flatV]
theorem flatV_get : ∀ {O : List VC} {i : Nat} {o : VC}, (∀ o ∈ O, o.2.length = 5) → O[i]? = some o → ∀ j, j < 5 → (flatV O)[i * 5 + j]? = o.2[j]?
  | [], i, o, _, h, _, _ => by simp at h
  | p :: O, 0, o, hk, h, j, hj => by
    simp at h; subst h
    have := hk p (by simp)
    rw [flatV, List.flatMap_cons, List.getElem?_append_left (by omega)]; simp
  | p :: O, i + 1, o, hk, h, j, hj => by
    have h1 := hk p (by simp)
    have ih := flatV_get (O := O) (fun q hq => hk q (by simp [hq])) (show O[i]? = some o by simpa using h) j hj
    rw [flatV, List.flatMap_cons, List.getElem?_append_right (by omega), h1, show (i + 1) * 5 + j - 5 = i * 5 + j by omega]
    exact ih
theorem cell_block {w w' : World} {b : Nat} (h : w'.heap[b]? = w.heap[b]?) (o : Nat) : w'.cell? ⟨b, o, none⟩ = w.cell? ⟨b, o, none⟩ := by
  unfold World.cell?; simp only [h]
/-- A row of values that a call owns, and a list that it holds. -/
theorem repIn_list {S T : Nat → Prop} {d base : Nat} {w : World} {t : Value} {O : List VC} (h : w.ownsRow base 38 5 t O.length (flatV O)) (hk : ∀ o ∈ O, RepIn S d w o.1 o.2) (hl : O.length ≤ 1000)
    (hS : ∀ b, S b → T b) (hT : ∀ g, t.ownBlock = some g → T g) : RepIn T (d + 1) w ⟨5, 0, eB, O.map (·.1), []⟩ [.int .i64 5, .int .i64 0, .string eB, t, .slice none 0 0] := by
  intro w' hs hb
  have h5 : ∀ o ∈ O, o.2.length = 5 := fun o ho => rep_len (hk o ho).now
  rcases h.2 with ⟨rfl, h0⟩ | ⟨g, cap, cur, rfl, _, hg, _⟩
  · have : O = [] := List.eq_nil_of_length_eq_zero h0
    subst this
    exact ⟨none, none, 0, 0, rfl, ⟨Nat.zero_le _, by simp [maxLen], by simp [maxLen]⟩, fun i x h => by simp at h, fun i q h => by simp at h⟩
  · refine ⟨some ⟨g, 0, none⟩, none, cap, 0, by simp, ⟨Nat.zero_le _, by simp [maxLen]; omega, by simp [maxLen]⟩, fun i x hx => ?_, fun i q h => by simp at h⟩
    have hx' : (O.map (·.1))[i]? = some x := hx
    rw [List.getElem?_map, Option.map_eq_some_iff] at hx'
    obtain ⟨o, ho, rfl⟩ := hx'
    have hi := (List.getElem?_eq_some_iff.1 ho).1
    have hgb := hb g (hT g rfl)
    refine ⟨g, 0, o.2, rfl, Nat.lt_of_lt_of_le (Array.getElem?_eq_some_iff.1 hg).1 hs, fun j c hc => ?_, (hk o (List.mem_of_getElem? ho)) w' hs fun b hb' => hb b (hS b hb')⟩
    have hj := (List.getElem?_eq_some_iff.1 hc).1
    rw [h5 o (List.mem_of_getElem? ho)] at hj
    rw [cell_block hgb, Nat.zero_add, h.cellAt _ (by omega), flatV_get h5 ho j hj]
    exact hc

/-- A value, an error, where it ends. -/
abbrev Rd := V × Int × Nat
def wEnd : ByteArray := ⟨#[93]⟩
/-- What reading a list makes: the values, an error, where it ends. -/
def rdL (f : Nat → Rd) (s : ByteArray) : Nat → List V → Nat → List V × Int × Nat
  | 0, _, j => ([], 2, j)
  | n + 1, acc, j =>
    if (endsR s wEnd j).1 ≠ 0 then ([], (endsR s wEnd j).1, j)
    else if (endsR s wEnd j).2.1 then (acc, 0, (endsR s wEnd j).2.2)
    else if (f (endsR s wEnd j).2.2).2.1 ≠ 0 then ([], (f (endsR s wEnd j).2.2).2.1, j)
    else if 300 < acc.length + 1 then ([], 2, j)
    else rdL f s n (acc ++ [(f (endsR s wEnd j).2.2).1]) (f (endsR s wEnd j).2.2).2.2
/-- What a call that reads a value says. -/
def Said (P : Nat) (w : World) (s : ByteArray) (d : Nat) (r : Rd) (e : Ending) (w' : World) : Prop :=
  ∃ (k n : Int) (t : ByteArray) (a1 a2 : Option Addr) (l1 c1 l2 c2 J : Nat), e = .returned (.tuple #[.agg #[.int .i64 k, .int .i64 n, .string t, .slice a1 l1 c1, .slice a2 l2 c2], errN r.2.1]) ∧ Moved P w w' s J ∧
    Hid (r.2.1 = 0 → J = r.2.2 ∧ J ≤ s.size ∧ RepIn (fun b => w.heap.size ≤ b ∧ b < w'.heap.size) d w' r.1 [.int .i64 k, .int .i64 n, .string t, .slice a1 l1 c1, .slice a2 l2 c2])
end Go.Proofs.YtobpidmlgldnmaaGreatDoor
