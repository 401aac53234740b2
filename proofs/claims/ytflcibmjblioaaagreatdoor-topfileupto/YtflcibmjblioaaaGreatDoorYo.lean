/-
  Joined: Ym, Yn, Yo.
-/
import Derived.Test.YtflcibmjblioaaaGreatDoorYl
import Derived.Test.YtflcibmjblioaaaGreatDoorVd5
import Derived.Maps.AppendAt

/-
  Trees that stand in known blocks; a row of values that a call owns; what reading a list makes.
-/
namespace Go.Proofs.YtflcibmjblioaaaGreatDoor
open Go.RowKit
set_option maxRecDepth 100000

/-- The cells hold the tree, and go on to hold it as long as these blocks stay. -/
def RepIn (S : Nat → Prop) (d : Nat) (w : World) (v : V) (cs : List Value) : Prop :=
  ∀ w', w.heap.size ≤ w'.heap.size → (∀ b, S b → w'.heap[b]? = w.heap[b]?) → RepN d w' v cs
theorem RepIn.now {S : Nat → Prop} {d : Nat} {w : World} {v : V} {cs : List Value} (h : RepIn S d w v cs) : RepN d w v cs := h w (Nat.le_refl _) fun _ _ => rfl
theorem RepIn.mono {S T : Nat → Prop} {d : Nat} {w : World} {v : V} {cs : List Value} (h : RepIn S d w v cs) (hS : ∀ b, S b → T b) : RepIn T d w v cs :=
  fun w' hs hb => h w' hs fun b hb' => hb b (hS b hb')
theorem RepIn.agree {S : Nat → Prop} {d : Nat} {w w' : World} {v : V} {cs : List Value} (h : RepIn S d w v cs) (hs : w.heap.size ≤ w'.heap.size) (hb : ∀ b, S b → w'.heap[b]? = w.heap[b]?) : RepIn S d w' v cs :=
  fun w2 hs2 hb2 => h w2 (Nat.le_trans hs hs2) fun b hb' => (hb2 b hb').trans (hb b hb')
theorem repIn_vc (S : Nat → Prop) (d : Nat) (w : World) (k n : Int) (s : ByteArray) (hs : s.size ≤ maxLen) : RepIn S (d + 1) w (V0 k n s) (vc k n s).toList :=
  fun w' _ _ => rep_vc d w' k n s hs
/-- Values, and their cells. -/
abbrev VC := V × List Value
def flatV (O : List VC) : List Value := O.flatMap (·.2)
theorem flatV_append (O O' : List VC) : flatV (O ++ O') = flatV O ++ flatV O' := List.flatMap_append
theorem flatV_one (o : VC) : flatV [o] = o.2 := by simp [flatV]
theorem flatV_get : ∀ {O : List VC} {i : Nat} {o : VC}, (∀ o ∈ O, o.2.length = 5) → O[i]? = some o → ∀ j, j < 5 → (flatV O)[i * 5 + j]? = o.2[j]?
  | [], i, o, _, h, _, _ => by simp at h
  | p :: O, 0, o, hk, h, j, hj => by
    simp at h; subst h
    have := hk p (by simp)
    rw [flatV, List.flatMap_cons, List.getElem?_append_left (by omega)]; simp
  | p :: O, i + 1, o, hk, h, j, hj => by
    have h1 := hk p (by simp)
    have ih := flatV_get (O := O) (fun q hq => hk q (by simp [hq])) (show O[i]? = some o by simpa using h) j hj
    rw [flatV, List.flatMap_cons, List.getElem?_append_right (by omega), h1, show (i + 1) * 5 + j - 5 = i * 5 + j by omega]
    exact ih
theorem cell_block {w w' : World} {b : Nat} (h : w'.heap[b]? = w.heap[b]?) (o : Nat) : w'.cell? ⟨b, o, none⟩ = w.cell? ⟨b, o, none⟩ := by
  unfold World.cell?; simp only [h]
/-- A row of values that a call owns, and a list that it holds. -/
theorem repIn_list {S T : Nat → Prop} {d base : Nat} {w : World} {t : Value} {O : List VC} (h : w.ownsRow base 40 5 t O.length (flatV O)) (hk : ∀ o ∈ O, RepIn S d w o.1 o.2) (hl : O.length ≤ 1000)
    (hS : ∀ b, S b → T b) (hT : ∀ g, t.ownBlock = some g → T g) : RepIn T (d + 1) w ⟨5, 0, eB, O.map (·.1), []⟩ [.int .i64 5, .int .i64 0, .string eB, t, .slice none 0 0] := by
  intro w' hs hb
  have h5 : ∀ o ∈ O, o.2.length = 5 := fun o ho => rep_len (hk o ho).now
  rcases h.2 with ⟨rfl, h0⟩ | ⟨g, cap, cur, rfl, _, hg, _⟩
  · have : O = [] := List.eq_nil_of_length_eq_zero h0
    subst this
    exact ⟨none, none, 0, 0, rfl, ⟨Nat.zero_le _, by simp [maxLen], by simp [maxLen]⟩, fun i x h => by simp at h, fun i q h => by simp at h⟩
  · refine ⟨some ⟨g, 0, none⟩, none, cap, 0, by simp, ⟨Nat.zero_le _, by simp [maxLen]; omega, by simp [maxLen]⟩, fun i x hx => ?_, fun i q h => by simp at h⟩
    have hx' : (O.map (·.1))[i]? = some x := hx
    rw [List.getElem?_map, Option.map_eq_some_iff] at hx'
    obtain ⟨o, ho, rfl⟩ := hx'
    have hi := (List.getElem?_eq_some_iff.1 ho).1
    have hgb := hb g (hT g rfl)
    refine ⟨g, 0, o.2, rfl, Nat.lt_of_lt_of_le (Array.getElem?_eq_some_iff.1 hg).1 hs, fun j c hc => ?_, (hk o (List.mem_of_getElem? ho)) w' hs fun b hb' => hb b (hS b hb')⟩
    have hj := (List.getElem?_eq_some_iff.1 hc).1
    rw [h5 o (List.mem_of_getElem? ho)] at hj
    rw [cell_block hgb, Nat.zero_add, h.cellAt _ (by omega), flatV_get h5 ho j hj]
    exact hc

/-- A value, an error, where it ends. -/
abbrev Rd := V × Int × Nat
def wEnd : ByteArray := ⟨#[93]⟩
/-- What reading a list makes: the values, an error, where it ends. -/
def rdL (f : Nat → Rd) (s : ByteArray) : Nat → List V → Nat → List V × Int × Nat
  | 0, _, j => ([], 2, j)
  | n + 1, acc, j =>
    if (endsR s wEnd j).1 ≠ 0 then ([], (endsR s wEnd j).1, j)
    else if (endsR s wEnd j).2.1 then (acc, 0, (endsR s wEnd j).2.2)
    else if (f (endsR s wEnd j).2.2).2.1 ≠ 0 then ([], (f (endsR s wEnd j).2.2).2.1, j)
    else if 300 < acc.length + 1 then ([], 2, j)
    else rdL f s n (acc ++ [(f (endsR s wEnd j).2.2).1]) (f (endsR s wEnd j).2.2).2.2
/-- What a call that reads a value says. -/
def Said (P : Nat) (w : World) (s : ByteArray) (d : Nat) (r : Rd) (e : Ending) (w' : World) : Prop :=
  ∃ (k n : Int) (t : ByteArray) (a1 a2 : Option Addr) (l1 c1 l2 c2 J : Nat), e = .returned (.tuple #[.agg #[.int .i64 k, .int .i64 n, .string t, .slice a1 l1 c1, .slice a2 l2 c2], errN r.2.1]) ∧ Moved P w w' s J ∧
    Hid (r.2.1 = 0 → J = r.2.2 ∧ J ≤ s.size ∧ RepIn (fun b => w.heap.size ≤ b ∧ b < w'.heap.size) d w' r.1 [.int .i64 k, .int .i64 n, .string t, .slice a1 l1 c1, .slice a2 l2 c2])
end Go.Proofs.YtflcibmjblioaaaGreatDoor

/-
  The program's reader: a list that is being read.
-/
namespace Go.Proofs.YtflcibmjblioaaaGreatDoor
open Go.RowKit
set_option maxRecDepth 100000

/-- The blocks that the read values may lie in: new ones, not the row's own. -/
def Room (B : Nat) (w : World) (t : Value) (b : Nat) : Prop := B ≤ b ∧ b < w.heap.size ∧ some b ≠ t.ownBlock
/-- A list that is being read: the answer's block, the list's block, its row, the values. -/
structure Rowed (P : Nat) (w wr : World) (s : ByteArray) (j d : Nat) (t : Value) (O : List VC) : Prop where
  mov : Moved P w wr s j
  lt : P < w.heap.size
  box : At wr w.heap.size 40 (vc 0 0 ⟨#[]⟩)
  vbox : At wr (w.heap.size + 1) 40 #[.int .i64 5, .int .i64 0, .string ⟨#[]⟩, t, .slice none 0 0]
  own : wr.ownsRow (w.heap.size + 2) 40 5 t O.length (flatV O)
  reps : ∀ o ∈ O, RepIn (Room (w.heap.size + 2) wr t) d wr o.1 o.2
theorem Rowed.moved {P : Nat} {w a b : World} {s : ByteArray} {j i d : Nat} {t : Value} {O : List VC} (h : Rowed P w a s j d t O) (m : Moved P a b s i) : Rowed P w b s i d t O := by
  have hP := h.lt
  refine ⟨h.mov.trans m, hP, m.keep.at h.box (by omega), m.keep.at h.vbox (by omega), ?_, fun o ho => ?_⟩
  · refine World.ownsRow.kept h.own (row := some P) ⟨m.keep.os, m.keep.tape, m.keep.output, m.keep.size, fun k hk hne => m.keep.block k hk (fun e => hne (by rw [e]))⟩ ?_
    cases hv : t.ownBlock with
    | none => exact .inl rfl
    | some g => exact .inr (fun e => by cases e; have := (h.own.lt P hv).1; omega)
  · refine ((h.reps o ho).agree m.keep.size fun b hb => m.keep.block b hb.2.1 (by have := hb.1; omega)).mono fun b hb => ⟨hb.1, Nat.lt_of_lt_of_le hb.2.1 m.keep.size, hb.2.2⟩
theorem Rowed.env {m : Int} {P : Nat} {w a : World} {s : ByteArray} {j d : Nat} {t : Value} {O : List VC} (h : Rowed P w a s j d t O) (hE : Env m P w) : Env m P a := hE.moved h.mov h.lt
theorem Rowed.size {P : Nat} {w a : World} {s : ByteArray} {j d : Nat} {t : Value} {O : List VC} (h : Rowed P w a s j d t O) : w.heap.size + 2 ≤ a.heap.size := At.lt h.vbox
/-- One more value: it was read into new blocks, two blocks were laid, the row grew, the list's block holds the row anew. -/
theorem Rowed.grow {P : Nat} {w a b : World} {s : ByteArray} {j i d : Nat} {t t' : Value} {O : List VC} {x : V} {c : List Value} {o1 o2 : Obj} {w2 : World} (h : Rowed P w a s j d t O) (m : Moved P a b s i)
    (hx : RepIn (fun g => a.heap.size ≤ g ∧ g < b.heap.size) d b x c) (hown : w2.ownsRow (w.heap.size + 2) 40 5 t' (O.length + 1) (flatV O ++ c)) (hg : ((b.alloc o1).alloc o2).grownBy w2 t.ownBlock)
    (hat : t'.ownBlock = t.ownBlock ∨ t'.ownBlock = some ((b.alloc o1).alloc o2).heap.size) : Rowed P w (w2.setCell ⟨w.heap.size + 1, 3, none⟩ t') s i d t' (O ++ [(x, c)]) := by
  have hb := h.moved m
  have hP := h.lt
  have hbs := hb.size
  have has := h.size
  have hsz := hg.size
  have hsz2 : b.heap.size + 2 ≤ w2.heap.size := by simp at hsz; omega
  have same : ∀ k, k < b.heap.size → some k ≠ t.ownBlock → w2.heap[k]? = b.heap[k]? := fun k hk hne => by
    rw [hg.block k (by simp; omega) hne, heap_alloc_old _ _ (by simp; omega), heap_alloc_old _ _ hk]
  have low : ∀ k, k < w.heap.size + 2 → some k ≠ t.ownBlock := fun k hk e => by
    have := (hb.own.lt k e.symm).1; omega
  have hW : Moved P w w2 s i := by
    refine ⟨⟨hg.os.trans hb.mov.keep.os, hg.tape.trans hb.mov.keep.tape, hg.output.trans hb.mov.keep.output, by omega, fun k hk hne => ?_⟩, ?_⟩
    · rw [same k (by omega) (low k (by omega))]; exact hb.mov.keep.block k hk hne
    · exact (same P (by omega) (low P (by omega))).trans hb.mov.at_
  have sz : (w2.setCell ⟨w.heap.size + 1, 3, none⟩ t').heap.size = w2.heap.size := by simp [World.setCell]
  have oth : ∀ k, k ≠ w.heap.size + 1 → (w2.setCell ⟨w.heap.size + 1, 3, none⟩ t').heap[k]? = w2.heap[k]? := fun k hk => Below.heap_setCell _ _ _ _ hk
  refine ⟨hW.setNew (by omega) hP _ _, hP, ?_, ?_, ?_, ?_⟩
  · exact (oth _ (by omega)).trans ((same _ (by omega) (low _ (by omega))).trans hb.box)
  · have hv : At w2 (w.heap.size + 1) 40 #[.int .i64 5, .int .i64 0, .string ⟨#[]⟩, t, .slice none 0 0] := (same _ (by omega) (low _ (by omega))).trans hb.vbox
    exact heap_setCell_same w2 _ 3 _ _ t' hv
  · rw [List.length_append, flatV_append, flatV_one]
    refine World.ownsRow.kept hown (row := some (w.heap.size + 1)) ⟨rfl, rfl, rfl, by rw [sz]; exact Nat.le_refl _, fun k hk hne => oth k (fun e => hne (by rw [e]))⟩ ?_
    cases hv : t'.ownBlock with
    | none => exact .inl rfl
    | some g => exact .inr (fun e => by cases e; have := (hown.lt _ hv).1; omega)
  · intro o ho
    have new : ∀ k, k < b.heap.size → some k ≠ t.ownBlock → some k ≠ t'.ownBlock := fun k hk hne => by
      rcases hat with e | e
      · rw [e]; exact hne
      · rw [e]; intro e'; injection e' with e'; simp at e'; omega
    rcases List.mem_append.1 ho with ho | ho
    · refine ((hb.reps o ho).agree (by rw [sz]; omega) fun k hk => ?_).mono fun k hk => ⟨hk.1, by rw [sz]; have := hk.2.1; omega, new k hk.2.1 hk.2.2⟩
      rw [oth k (by have := hk.1; omega)]; exact same k hk.2.1 hk.2.2
    · rw [List.mem_singleton.1 ho]
      have apart : ∀ k, a.heap.size ≤ k → some k ≠ t.ownBlock := fun k hk e => by have := (h.own.lt k e.symm).2; omega
      refine (hx.agree (by rw [sz]; omega) fun k hk => ?_).mono fun k hk => ⟨by have := hk.1; omega, by rw [sz]; have := hk.2; omega, new k hk.2 (apart k hk.1)⟩
      rw [oth k (by have := hk.1; omega)]; exact same k hk.2 (apart k hk.1)
/-- The list as it stands in its block. -/
theorem Rowed.rep {P : Nat} {w a : World} {s : ByteArray} {j d : Nat} {t : Value} {O : List VC} (h : Rowed P w a s j d t O) (hl : O.length ≤ 1000) :
    RepIn (fun b => w.heap.size + 2 ≤ b ∧ b < a.heap.size) (d + 1) a ⟨5, 0, eB, O.map (·.1), []⟩ [.int .i64 5, .int .i64 0, .string eB, t, .slice none 0 0] :=
  repIn_list h.own h.reps hl (fun _ hb => ⟨hb.1, hb.2.1⟩) (fun g hg => h.own.lt g hg)
/-- Five cells, written one by one. -/
def set5 (w : World) (b : Nat) (v0 v1 v2 v3 v4 : Value) : World := ((((w.setCell ⟨b, 0, none⟩ v0).setCell ⟨b, 1, none⟩ v1).setCell ⟨b, 2, none⟩ v2).setCell ⟨b, 3, none⟩ v3).setCell ⟨b, 4, none⟩ v4
theorem At.five {w : World} {b : Nat} {T : TypeId} {u0 u1 u2 u3 u4 : Value} (h : At w b T #[u0, u1, u2, u3, u4]) (v0 v1 v2 v3 v4 : Value) : At (set5 w b v0 v1 v2 v3 v4) b T #[v0, v1, v2, v3, v4] := by
  have h0 := heap_setCell_same w b 0 _ _ v0 h
  have h1 := heap_setCell_same _ b 1 _ _ v1 h0
  have h2 := heap_setCell_same _ b 2 _ _ v2 h1
  have h3 := heap_setCell_same _ b 3 _ _ v3 h2
  exact heap_setCell_same _ b 4 _ _ v4 h3
theorem set5_size (w : World) (b : Nat) (v0 v1 v2 v3 v4 : Value) : (set5 w b v0 v1 v2 v3 v4).heap.size = w.heap.size := by simp [set5, World.setCell]
theorem set5_other (w : World) (b : Nat) (v0 v1 v2 v3 v4 : Value) {k : Nat} (h : k ≠ b) : (set5 w b v0 v1 v2 v3 v4).heap[k]? = w.heap[k]? := by
  unfold set5; rw [Below.heap_setCell _ _ _ _ h, Below.heap_setCell _ _ _ _ h, Below.heap_setCell _ _ _ _ h, Below.heap_setCell _ _ _ _ h, Below.heap_setCell _ _ _ _ h]
theorem five_cells {w : World} {b : Nat} {T : TypeId} {v0 v1 v2 v3 v4 : Value} (h : At w b T #[v0, v1, v2, v3, v4]) :
    (w.cell? ⟨b, 0, none⟩ = some v0 ∧ w.cell? ⟨b, 1, none⟩ = some v1 ∧ w.cell? ⟨b, 2, none⟩ = some v2 ∧ w.cell? ⟨b, 3, none⟩ = some v3 ∧ w.cell? ⟨b, 4, none⟩ = some v4) ∧
    (w.frozen? ⟨b, 0, none⟩ = false ∧ w.frozen? ⟨b, 1, none⟩ = false ∧ w.frozen? ⟨b, 2, none⟩ = false ∧ w.frozen? ⟨b, 3, none⟩ = false ∧ w.frozen? ⟨b, 4, none⟩ = false) :=
  ⟨⟨At.cell h 0, At.cell h 1, At.cell h 2, At.cell h 3, At.cell h 4⟩, At.free h 0, At.free h 1, At.free h 2, At.free h 3, At.free h 4⟩
/-- The answer's block is written. -/
theorem Rowed.fill {P : Nat} {w a : World} {s : ByteArray} {j d : Nat} {t : Value} {O : List VC} (h : Rowed P w a s j d t O) (hl : O.length ≤ 1000) (v0 v1 v2 v3 v4 : Value) {wf : World} (hf : wf = set5 a w.heap.size v0 v1 v2 v3 v4) :
    Moved P w wf s j ∧ At wf w.heap.size 40 #[v0, v1, v2, v3, v4] ∧ RepIn (fun b => w.heap.size ≤ b ∧ b < wf.heap.size) (d + 1) wf ⟨5, 0, eB, O.map (·.1), []⟩ [.int .i64 5, .int .i64 0, .string eB, t, .slice none 0 0] := by
  subst hf
  refine ⟨h.mov.set5 (Nat.le_refl _) h.lt _ _ _ _ _, At.five h.box _ _ _ _ _, ?_⟩
  refine ((h.rep hl).agree (by rw [set5_size]; exact Nat.le_refl _) fun b hb => set5_other _ _ _ _ _ _ _ (by have := hb.1; omega)).mono fun b hb => ⟨by have := hb.1; omega, by rw [set5_size]; exact hb.2⟩
end Go.Proofs.YtflcibmjblioaaaGreatDoor

/-
  The program's reader: lists.
-/
namespace Go.Proofs.YtflcibmjblioaaaGreatDoor
open Go.RowKit
set_option maxRecDepth 100000

/-- How long the slice is that the list's block holds. -/
def lenAt (b : Nat) (w : World) : Nat := match w.cell? ⟨b, 3, none⟩ with | some (.slice _ n _) => n | _ => 0
theorem lenAt_at {w : World} {b : Nat} {T : TypeId} {v0 v1 v2 v4 : Value} {a : Option Addr} {n c : Nat} (h : At w b T #[v0, v1, v2, .slice a n c, v4]) : lenAt b w = n := by
  have h3 : w.cell? ⟨b, 3, none⟩ = some (.slice a n c) := At.cell h 3
  unfold lenAt; rw [h3]
theorem own_slice5 {w : World} {B : Nat} {t : Value} {n : Nat} {xs : List Value} (h : w.ownsRow B 40 5 t n xs) : ∃ a c, t = .slice a n c := by
  rcases h.2 with ⟨rfl, h0⟩ | ⟨g, cap, cur, rfl, _⟩
  · exact ⟨none, 0, by rw [h0]⟩
  · exact ⟨_, cap, rfl⟩
theorem Rowed.cells {P : Nat} {w a : World} {s : ByteArray} {j d : Nat} {t : Value} {O : List VC} (h : Rowed P w a s j d t O) :
    (a.cell? ⟨w.heap.size + 1, 0, none⟩ = some (.int .i64 5) ∧ a.cell? ⟨w.heap.size + 1, 1, none⟩ = some (.int .i64 0) ∧ a.cell? ⟨w.heap.size + 1, 2, none⟩ = some (.string ⟨#[]⟩) ∧ a.cell? ⟨w.heap.size + 1, 3, none⟩ = some t ∧ a.cell? ⟨w.heap.size + 1, 4, none⟩ = some (.slice none 0 0)) ∧ a.frozen? ⟨w.heap.size + 1, 3, none⟩ = false :=
  ⟨⟨At.cell h.vbox 0, At.cell h.vbox 1, At.cell h.vbox 2, At.cell h.vbox 3, At.cell h.vbox 4⟩, At.free h.vbox 3⟩
theorem yEndsN (P : Nat) (s p : ByteArray) (k : Nat) (w : World) (hR : RdAt w P s k) (hk : k ≤ s.size) (hs : s.size ≤ 100000) (hp : p.size ≤ 100) {x : Int} {y : Bool} {z : Nat} (h : endsR s p k = (x, y, z)) :
    Calls Tryz.prog 144 #[.pointer (some ⟨P, 0, none⟩), .string p] w fun e w' => e = .returned (.tuple #[.bool y, errN x]) ∧ Moved P w w' s z := by
  have := yEnds P s p k w hR hk hs hp; rw [h] at this; exact this
theorem Rowed.vkept {P : Nat} {w b w2 : World} {s : ByteArray} {i d : Nat} {t : Value} {O : List VC} {o1 o2 : Obj} (h : Rowed P w b s i d t O) (hg : ((b.alloc o1).alloc o2).grownBy w2 t.ownBlock) :
    At w2 (w.heap.size + 1) 40 #[.int .i64 5, .int .i64 0, .string ⟨#[]⟩, t, .slice none 0 0] ∧ At w2 w.heap.size 40 (vc 0 0 ⟨#[]⟩) := by
  have hs := h.size
  have same : ∀ k, k < w.heap.size + 2 → w2.heap[k]? = b.heap[k]? := fun k hk => by
    rw [hg.block k (by simp; omega) (fun e => by have := (h.own.lt k e.symm).1; omega), heap_alloc_old _ _ (by simp; omega), heap_alloc_old _ _ (by omega)]
  exact ⟨(same _ (by omega)).trans h.vbox, (same _ (by omega)).trans h.box⟩
theorem news_at2 {w : World} {o : Obj} {cells : Array Value} {vs : List Value} {e : TypeId} (hx : cells = vs.toArray) (j : Nat) (u : Value) (h : vs[j]? = some u) : ((w.alloc o).alloc (.cells cells e)).cell? ((⟨w.heap.size + 1, 0, none⟩ : Addr).add j) = some u := by
  have := news_at (w := w.alloc o) (e := e) hx j u h
  rwa [show (w.alloc o).heap.size = w.heap.size + 1 by simp] at this
theorem Rowed.below {P : Nat} {w a b : World} {s : ByteArray} {j d : Nat} {t : Value} {O : List VC} (h : Rowed P w a s j d t O) (hb : Below a.heap.size a b) : Rowed P w b s j d t O :=
  h.moved ⟨.of hb, At.later h.mov.at_ hb⟩
theorem rdL_step {f : Nat → Rd} {s : ByteArray} {n : Nat} {acc : List V} {j : Nat} {x : Int} {y : Bool} {z : Nat} (he : endsR s wEnd j = (x, y, z)) :
    rdL f s (n + 1) acc j = if x ≠ 0 then ([], x, j) else if y then (acc, 0, z) else if (f z).2.1 ≠ 0 then ([], (f z).2.1, j) else if 300 < acc.length + 1 then ([], 2, j) else rdL f s n (acc ++ [(f z).1]) (f z).2.2 := by rw [rdL, he]
theorem endsR_to {s p : ByteArray} {k : Nat} (hk : k ≤ s.size) (hp : p.size = 1) {x : Int} {y : Bool} {z : Nat} (h : endsR s p k = (x, y, z)) : z ≤ s.size := by
  have hl := skipP_le hk
  unfold endsR at h
  split at h
  · injection h with h1 h2; injection h2 with _ h3; omega
  · split at h
    · injection h with _ h2; injection h2 with _ h3; omega
    · injection h with _ h2; injection h2 with _ h3; omega
set_option maxHeartbeats 8000000 in
theorem yList (m : Int) (P : Nat) (s : ByteArray) (k d : Nat) (deep : Int) (f : Nat → Rd) (w : World) (hE : Env m P w) (hR : RdAt w P s k) (hk : k < s.size) (hs : s.size ≤ 100000) (hd : 0 ≤ deep ∧ deep ≤ 8)
    (hval : ∀ (w : World) (j : Nat), Env m P w → RdAt w P s j → j ≤ s.size → Calls Tryz.prog 55 #[.pointer (some ⟨P, 0, none⟩), .int .i64 (deep + 1)] w (Said P w s d (f j))) :
    Calls Tryz.prog 94 #[.pointer (some ⟨P, 0, none⟩), .int .i64 deep] w (Said P w s (d + 1) (⟨5, 0, eB, (rdL f s 302 [] (k + 1)).1, []⟩, (rdL f s 302 [] (k + 1)).2.1, (rdL f s 302 [] (k + 1)).2.2)) := by
  obtain ⟨iV, hiV, hv0, hv1, hv2⟩ := info_parts infoV
  have hPl : P < w.heap.size := At.lt hR
  have c1 := hR.c1
  have f1 := At.free hR 1
  have hm0 := (Moved.refl hR).set (i := (k : Int) + 1) (j := k + 1) (by omega)
  obtain ⟨R, hRR⟩ : ∃ R, rdL f s 302 [] (k + 1) = R := ⟨_, rfl⟩
  rw [hRR]
  have HR0 := hid hRR
  clear hRR
  have HV := hid hval
  clear hval
  go_enter Tryz.func94, Tryz.ntmps94
  go_wp2
  go_loopw [7] (fun _ wr => ∃ (j : Nat) (t : Value) (O : List VC), j ≤ s.size ∧ O.length ≤ 300 ∧ rdL f s (302 - O.length) (O.map (·.1)) j = R ∧ Rowed P w wr s j d t O) (fun _ wr => 302 - lenAt (w.heap.size + 1) wr)
  case atStart =>
    refine ⟨k + 1, .slice none 0 0, [], by omega, by simp, HR0.out, ?_, hPl, ?_, ?_, World.ownsRow_nil _ _ _ _, by simp⟩
    · exact (hm0.below hPl ((Below.refl _ _).alloc (by simp [World.setCell]) _)).below hPl ((Below.refl _ _).alloc (by simp [World.setCell]) _)
    · exact (At.new _ _ _ (by simp [World.setCell])).alloc _
    · exact At.new _ _ _ (by simp [World.setCell])
  case round =>
    clear HR0 hm0 c1 f1
    obtain ⟨j, t, O, hj, hO, hT, hW⟩ := hrel
    have HT := hid hT
    clear hT
    have hWs := hW.size
    obtain ⟨a, c, rfl⟩ := own_slice5 hW.own
    obtain ⟨ex, ey, ez, hes⟩ : ∃ x y z, endsR s wEnd j = (x, y, z) := ⟨_, _, _, rfl⟩
    have hez := endsR_to hj rfl hes
    have HU := hid (show (if ex ≠ 0 then ([], ex, j) else if ey then (O.map (·.1), 0, ez) else if (f ez).2.1 ≠ 0 then ([], (f ez).2.1, j) else if 300 < (O.map (·.1)).length + 1 then ([], 2, j) else rdL f s (302 - O.length - 1) (O.map (·.1) ++ [(f ez).1]) (f ez).2.2) = R by
      rw [← HT.out, show 302 - O.length = 302 - O.length - 1 + 1 by omega, rdL_step hes]; rfl)
    clear HT
    have hends := fun (w : World) (h : RdAt w P s j) => yEndsN P s wEnd j w h hj hs (by decide) hes
    clear hes
    by_cases hx : ex = 0
    · subst hx
      rw [errN_0] at hends
      cases ey
      · have HU2 := hid (show (if (f ez).2.1 ≠ 0 then ([], (f ez).2.1, j) else if 300 < (O.map (·.1)).length + 1 then ([], 2, j) else rdL f s (302 - O.length - 1) (O.map (·.1) ++ [(f ez).1]) (f ez).2.2) = R by have h := HU.out; rw [if_neg (by simp), if_neg (by simp)] at h; exact h)
        clear HU
        have hv := fun (w : World) (h1 : Env m P w) (h2 : RdAt w P s ez) => HV.out w ez h1 h2 hez
        generalize f ez = r at hv HU2
        obtain ⟨x, e1, z1⟩ := r
        unfold Said at hv
        unfold wEnd at hends
        simp only at hv
        by_cases he : e1 = 0
        · subst he
          rw [errN_0] at hv
          by_cases hmany : O.length + 1 ≤ 300
          · have hm' : ¬ ((300 : Int) < (O.length : Int) + 1) := by omega
            have HRN := hid (show rdL f s (302 - O.length - 1) (O.map (·.1) ++ [x]) z1 = R by have h := HU2.out; rw [if_neg (by simp), if_neg (by simp; omega)] at h; exact h)
            clear HU2
            go_wp2_with (first | (go_at_call 144; go_must (refine (hends _ hW.mov.at_).mono ?_); rintro e w1 ⟨rfl, hm1⟩; (have hW1 := hW.moved hm1); obtain ⟨⟨bx0, bx1, bx2, bx3, bx4⟩, fx0, fx1, fx2, fx3, fx4⟩ := five_cells hW1.box; obtain ⟨⟨vx0, vx1, vx2, vx3, vx4⟩, fv⟩ := hW1.cells) | (go_at_call 55; go_must (refine (hv _ (hW1.env hE) hm1.at_).mono ?_); rintro e w2 ⟨k1, n1, t1, a1, a2, l1, c1, l2, c2, J, rfl, hm2, HQ⟩; (have hW2 := hW1.moved hm2); (have hz2 := hW2.size); obtain ⟨⟨by0, by1, by2, by3, by4⟩, fy0, fy1, fy2, fy3, fy4⟩ := five_cells hW2.box; obtain ⟨⟨vy0, vy1, vy2, vy3, vy4⟩, fvy⟩ := hW2.cells; (have hWa := hW2.below (below_box w2 (.cells #[.int .i64 k1, .int .i64 n1, .string t1, .slice a1 l1 c1, .slice a2 l2 c2] 40))); obtain ⟨⟨ba0, ba1, ba2, ba3, ba4⟩, fa0, fa1, fa2, fa3, fa4⟩ := five_cells hWa.box; obtain ⟨⟨va0, va1, va2, va3, va4⟩, fva⟩ := hWa.cells) | (at_builtin; refine wpList_append_own_at _ rfl (.tmp 43) (.tmp 45) 37 rfl (w.heap.size + 2) 40 iV _ 5 80 Tryz.underlying37 hiV hv0 hv1 hv2 rfl (by decide) _ _ _ rfl ((hW2.own.alloc _).alloc _) ⟨w2.heap.size + 1, 0, none⟩ 1 1 [.int .i64 k1, .int .i64 n1, .string t1, .slice a1 l1 c1, .slice a2 l2 c2] rfl rfl (fun i u hi => news_at2 rfl i u hi) (by simp [Value.oneCell']) (by unfold maxLen; omega) (by omega) (by simp; omega) ?_; intro v' w3 hown3 hg3 _ hat3; obtain ⟨a', c', rfl⟩ := own_slice5 hown3; obtain ⟨hJ, hJs, hRep⟩ := HQ.out (by first | trivial | rfl); (have HY := hid (hW1.grow hm2 hRep hown3 hg3 hat3)); obtain ⟨hA1, hA2⟩ := hW2.vkept hg3; obtain ⟨⟨bz0, bz1, bz2, bz3, bz4⟩, fz0, fz1, fz2, fz3, fz4⟩ := five_cells hA2; obtain ⟨⟨vz0, vz1, vz2, vz3, vz4⟩, gz0, gz1, gz2, gz3, gz4⟩ := five_cells hA1; clear hown3 hg3 hat3))
            refine ⟨⟨J, _, _, hJs, by simp; omega, ?_, HY.out⟩, ?_⟩
            · have h := HRN.out
              rw [← hJ] at h
              rw [List.length_append, List.length_singleton, List.map_append, show 302 - (O.length + 1) = 302 - O.length - 1 by omega]
              exact h
            · rw [lenAt_at HY.out.vbox, lenAt_at hW.vbox]; omega
          · have hm' : (300 : Int) < (O.length : Int) + 1 := by omega
            have HRN := hid (show ([], 2, j) = R by have h := HU2.out; rw [if_neg (by simp), if_pos (by simp; omega)] at h; exact h)
            clear HU2
            go_wp2_with (first | (go_at_call 144; go_must (refine (hends _ hW.mov.at_).mono ?_); rintro e w1 ⟨rfl, hm1⟩; (have hW1 := hW.moved hm1); obtain ⟨⟨bx0, bx1, bx2, bx3, bx4⟩, fx0, fx1, fx2, fx3, fx4⟩ := five_cells hW1.box; obtain ⟨⟨vx0, vx1, vx2, vx3, vx4⟩, fv⟩ := hW1.cells) | (go_at_call 55; go_must (refine (hv _ (hW1.env hE) hm1.at_).mono ?_); rintro e w2 ⟨k1, n1, t1, a1, a2, l1, c1, l2, c2, J, rfl, hm2, HQ⟩; (have hW2 := hW1.moved hm2); (have hz2 := hW2.size); obtain ⟨⟨by0, by1, by2, by3, by4⟩, fy0, fy1, fy2, fy3, fy4⟩ := five_cells hW2.box; obtain ⟨⟨vy0, vy1, vy2, vy3, vy4⟩, fvy⟩ := hW2.cells; (have hWa := hW2.below (below_box w2 (.cells #[.int .i64 k1, .int .i64 n1, .string t1, .slice a1 l1 c1, .slice a2 l2 c2] 40))); obtain ⟨⟨ba0, ba1, ba2, ba3, ba4⟩, fa0, fa1, fa2, fa3, fa4⟩ := five_cells hWa.box; obtain ⟨⟨va0, va1, va2, va3, va4⟩, fva⟩ := hWa.cells) | (at_builtin; refine wpList_append_own_at _ rfl (.tmp 43) (.tmp 45) 37 rfl (w.heap.size + 2) 40 iV _ 5 80 Tryz.underlying37 hiV hv0 hv1 hv2 rfl (by decide) _ _ _ rfl ((hW2.own.alloc _).alloc _) ⟨w2.heap.size + 1, 0, none⟩ 1 1 [.int .i64 k1, .int .i64 n1, .string t1, .slice a1 l1 c1, .slice a2 l2 c2] rfl rfl (fun i u hi => news_at2 rfl i u hi) (by simp [Value.oneCell']) (by unfold maxLen; omega) (by omega) (by simp; omega) ?_; intro v' w3 hown3 hg3 _ hat3; obtain ⟨a', c', rfl⟩ := own_slice5 hown3; obtain ⟨hJ, hJs, hRep⟩ := HQ.out (by first | trivial | rfl); (have HY := hid (hW1.grow hm2 hRep hown3 hg3 hat3)); obtain ⟨hA1, hA2⟩ := hW2.vkept hg3; obtain ⟨⟨bz0, bz1, bz2, bz3, bz4⟩, fz0, fz1, fz2, fz3, fz4⟩ := five_cells hA2; obtain ⟨⟨vz0, vz1, vz2, vz3, vz4⟩, gz0, gz1, gz2, gz3, gz4⟩ := five_cells hA1; clear hown3 hg3 hat3))
            obtain ⟨hM5, hB5, hP5⟩ := HY.out.fill (by simp; omega) (.int .i64 0) (.int .i64 0) (.string ⟨#[]⟩) (.slice none 0 0) (.slice none 0 0) rfl
            unfold set5 at hM5 hB5 hP5
            clear hP5 HY
            generalize World.setCell _ _ _ = wf at hM5 hB5 ⊢
            obtain ⟨⟨cx0, cx1, cx2, cx3, cx4⟩, _⟩ := five_cells hB5
            refine bodyPost_ret (v := .tuple #[.agg #[.int .i64 0, .int .i64 0, .string ⟨#[]⟩, .slice none 0 0, .slice none 0 0], .iface 50 (.int .i64 2)]) (by simp [results, Tryz.results94, go_sem, cx0, cx1, cx2, cx3, cx4]; try first | exact ⟨rfl, rfl⟩ | rfl) rfl ?_
            rw [← HRN.out]
            exact ⟨0, 0, ⟨#[]⟩, none, none, 0, 0, 0, 0, _, rfl, hM5, hid (fun h => absurd (show (2 : Int) = 0 from h) (by decide))⟩
        · have HRN := hid (show ([], e1, j) = R by rw [← HU2.out, if_pos he])
          have HX := hid he
          rw [errN_pos he] at hv
          unfold errV at hv
          clear HU2 he
          go_wp2_with (first | (go_at_call 144; go_must (refine (hends _ hW.mov.at_).mono ?_); rintro e w1 ⟨rfl, hm1⟩; (have hW1 := hW.moved hm1); obtain ⟨⟨bx0, bx1, bx2, bx3, bx4⟩, fx0, fx1, fx2, fx3, fx4⟩ := five_cells hW1.box; obtain ⟨⟨vx0, vx1, vx2, vx3, vx4⟩, fv⟩ := hW1.cells) | (go_at_call 55; go_must (refine (hv _ (hW1.env hE) hm1.at_).mono ?_); rintro e w2 ⟨k1, n1, t1, a1, a2, l1, c1, l2, c2, J, rfl, hm2, HQ⟩; (have hW2 := hW1.moved hm2); (have hz2 := hW2.size); obtain ⟨⟨by0, by1, by2, by3, by4⟩, fy0, fy1, fy2, fy3, fy4⟩ := five_cells hW2.box; obtain ⟨⟨vy0, vy1, vy2, vy3, vy4⟩, fvy⟩ := hW2.cells; (have hWa := hW2.below (below_box w2 (.cells #[.int .i64 k1, .int .i64 n1, .string t1, .slice a1 l1 c1, .slice a2 l2 c2] 40))); obtain ⟨⟨ba0, ba1, ba2, ba3, ba4⟩, fa0, fa1, fa2, fa3, fa4⟩ := five_cells hWa.box; obtain ⟨⟨va0, va1, va2, va3, va4⟩, fva⟩ := hWa.cells))
          obtain ⟨hM5, hB5, hP5⟩ := hWa.fill (by omega) (.int .i64 0) (.int .i64 0) (.string ⟨#[]⟩) (.slice none 0 0) (.slice none 0 0) rfl
          unfold set5 at hM5 hB5 hP5
          generalize World.setCell _ _ _ = wf at hM5 hB5 hP5 ⊢
          obtain ⟨⟨cx0, cx1, cx2, cx3, cx4⟩, _⟩ := five_cells hB5
          refine bodyPost_ret (v := .tuple #[.agg #[.int .i64 0, .int .i64 0, .string ⟨#[]⟩, .slice none 0 0, .slice none 0 0], .iface 50 (.int .i64 e1)]) (by simp [results, Tryz.results94, go_sem, cx0, cx1, cx2, cx3, cx4]; try first | exact ⟨rfl, rfl⟩ | rfl) rfl ?_
          rw [← HRN.out]
          exact ⟨0, 0, ⟨#[]⟩, none, none, 0, 0, 0, 0, _, by rw [errN_pos HX.out]; rfl, hM5, hid (fun h => absurd h HX.out)⟩
      · have HRN := hid (show (O.map (·.1), 0, ez) = R by have h := HU.out; rw [if_neg (by simp), if_pos rfl] at h; exact h)
        unfold wEnd at hends
        clear HU
        go_wp2_with (go_at_call 144; go_must (refine (hends _ hW.mov.at_).mono ?_); rintro e w1 ⟨rfl, hm1⟩; (have hW1 := hW.moved hm1); obtain ⟨⟨bx0, bx1, bx2, bx3, bx4⟩, fx0, fx1, fx2, fx3, fx4⟩ := five_cells hW1.box; obtain ⟨⟨vx0, vx1, vx2, vx3, vx4⟩, fv⟩ := hW1.cells)
        obtain ⟨hM5, hB5, hP5⟩ := hW1.fill (by omega) (.int .i64 5) (.int .i64 0) (.string ⟨#[]⟩) (.slice a O.length c) (.slice none 0 0) rfl
        unfold set5 at hM5 hB5 hP5
        generalize World.setCell _ _ _ = wf at hM5 hB5 hP5 ⊢
        obtain ⟨⟨cx0, cx1, cx2, cx3, cx4⟩, _⟩ := five_cells hB5
        refine bodyPost_ret (v := .tuple #[.agg #[.int .i64 5, .int .i64 0, .string ⟨#[]⟩, .slice a O.length c, .slice none 0 0], .nilIface]) (by simp [results, Tryz.results94, go_sem, cx0, cx1, cx2, cx3, cx4]; try first | exact ⟨rfl, rfl⟩ | rfl) rfl ?_
        rw [← HRN.out]
        exact ⟨5, 0, ⟨#[]⟩, a, none, _, c, 0, 0, _, by rw [errN_0], hM5, hid (fun _ => ⟨rfl, hez, hP5⟩)⟩
    · have HRN := hid (show ([], ex, j) = R by rw [← HU.out, if_pos hx])
      have HX := hid hx
      rw [errN_pos hx] at hends
      unfold errV wEnd at hends
      clear HU hx
      go_wp2_with (go_at_call 144; go_must (refine (hends _ hW.mov.at_).mono ?_); rintro e w1 ⟨rfl, hm1⟩; (have hW1 := hW.moved hm1); obtain ⟨⟨bx0, bx1, bx2, bx3, bx4⟩, fx0, fx1, fx2, fx3, fx4⟩ := five_cells hW1.box; obtain ⟨⟨vx0, vx1, vx2, vx3, vx4⟩, fv⟩ := hW1.cells)
      all_goals
        obtain ⟨hM5, hB5, hP5⟩ := hW1.fill (by omega) (.int .i64 5) (.int .i64 0) (.string ⟨#[]⟩) (.slice a O.length c) (.slice none 0 0) rfl
        unfold set5 at hM5 hB5 hP5
        generalize World.setCell _ _ _ = wf at hM5 hB5 hP5 ⊢
        obtain ⟨⟨cx0, cx1, cx2, cx3, cx4⟩, _⟩ := five_cells hB5
        refine bodyPost_ret (v := .tuple #[.agg #[.int .i64 5, .int .i64 0, .string ⟨#[]⟩, .slice a O.length c, .slice none 0 0], .iface 50 (.int .i64 ex)]) (by simp [results, Tryz.results94, go_sem, cx0, cx1, cx2, cx3, cx4]; try first | exact ⟨rfl, rfl⟩ | rfl) rfl ?_
        rw [← HRN.out]
        exact ⟨5, 0, ⟨#[]⟩, a, none, _, c, 0, 0, _, by rw [errN_pos HX.out]; rfl, hM5, hid (fun h => absurd h HX.out)⟩
end Go.Proofs.YtflcibmjblioaaaGreatDoor
