/-
  Joined: Vc1, Vc2, Vc3.
-/
import Derived.Test.YtobpidmlgldnmaaGreatDoorVy
import Derived.Deep.AppendLies
import Derived.Deep.LoopGhost
import Derived.WalkSmall

/-
  Copies: trees that lie in memory of their own, each list behind those that lead to it.
-/
namespace Go.Proofs.YtobpidmlgldnmaaGreatDoor
open Go.RowKit
set_option maxRecDepth 100000

/-- A block's kind and size. -/
def Shape (w : World) (b : Nat) (t : TypeId) (n : Nat) : Prop := ∃ cs, w.heap[b]? = some (.cells cs t (0, 0)) ∧ cs.size = n
/-- The fields lie in a row of their own. -/
def RowF (w : World) (n : Nat) (af : Option Addr) (cf bf : Nat) : Prop := (n = 0 → af = none ∧ cf = 0) ∧ (0 < n → Shape w bf 111 (cf * 6) ∧ n ≤ cf ∧ cf ≤ maxLen)
/-- The cells hold the tree; its lists lie from block m on, each behind those that lead to it. -/
def RepG : Nat → Nat → World → V → List Value → Prop
  | 0, _, _, _, _ => False
  | d + 1, m, w, v, cs => ∃ (al af : Option Addr) (cl cf bl bf : Nat),
      cs = [.int .i64 v.k, .int .i64 v.n, .string v.s, .slice al v.l.length cl, .slice af v.f.length cf] ∧ (v.s.size ≤ maxLen ∧ v.l.length ≤ maxLen ∧ v.f.length ≤ maxLen) ∧ (m ≤ bl ∧ m ≤ bf) ∧ RowF w v.f.length af cf bf ∧
      (∀ (i : Nat) (x : V), v.l[i]? = some x → ∃ c, al = some ⟨bl, 0, none⟩ ∧ bl < w.heap.size ∧ CellsAt w bl (i * 5) c ∧ RepG d (max bl bf + 1) w x c) ∧
      (∀ (i : Nat) (q : ByteArray × V), v.f[i]? = some q → ∃ c, af = some ⟨bf, 0, none⟩ ∧ bf < w.heap.size ∧ q.1.size ≤ maxLen ∧ w.cell? ⟨bf, i * 6, none⟩ = some (.string q.1) ∧ CellsAt w bf (i * 6 + 1) c ∧ RepG d (max bl bf + 1) w q.2 c)
theorem RepG.rep : ∀ {d m : Nat} {w : World} {v : V} {cs : List Value}, RepG d m w v cs → RepN d w v cs
  | 0, _, _, _, _, h => h.elim
  | d + 1, m, w, v, cs, h => by
    obtain ⟨al, af, cl, cf, bl, bf, h1, h2, _, _, h3, h4⟩ := h
    refine ⟨al, af, cl, cf, h1, h2, fun i x hx => ?_, fun i q hq => ?_⟩
    · obtain ⟨c, e, hb, hc, hr⟩ := h3 i x hx
      exact ⟨bl, 0, c, e, hb, by rw [Nat.zero_add]; exact hc, hr.rep⟩
    · obtain ⟨c, e, hb, hs, hn, hc, hr⟩ := h4 i q hq
      exact ⟨bf, 0, c, e, hb, hs, by rw [Nat.zero_add]; exact hn, by rw [Nat.zero_add]; exact hc, hr.rep⟩
theorem RepG.low : ∀ {d m m' : Nat} {w : World} {v : V} {cs : List Value}, RepG d m w v cs → m' ≤ m → RepG d m' w v cs
  | 0, _, _, _, _, _, h, _ => h.elim
  | d + 1, m, m', w, v, cs, h, hm => by
    obtain ⟨al, af, cl, cf, bl, bf, h1, h2, ⟨h5, h6⟩, hrow, h3, h4⟩ := h
    exact ⟨al, af, cl, cf, bl, bf, h1, h2, ⟨by omega, by omega⟩, hrow, h3, h4⟩
/-- It hangs on the blocks from m on alone. -/
theorem RepG.same : ∀ {d m : Nat} {w w' : World} {v : V} {cs : List Value}, RepG d m w v cs → w.heap.size ≤ w'.heap.size → (∀ b, m ≤ b → b < w.heap.size → w'.heap[b]? = w.heap[b]?) → RepG d m w' v cs
  | 0, _, _, _, _, _, h, _, _ => h.elim
  | d + 1, m, w, w', v, cs, h, hs, hb => by
    have cell : ∀ b o, m ≤ b → b < w.heap.size → w'.cell? ⟨b, o, none⟩ = w.cell? ⟨b, o, none⟩ := fun b o h1 h2 => World.cell?_of_block (a := ⟨b, o, none⟩) (hb b h1 h2)
    obtain ⟨al, af, cl, cf, bl, bf, h1, h2, ⟨h5, h6⟩, hrow, h3, h4⟩ := h
    have hrow' : RowF w' v.f.length af cf bf := ⟨hrow.1, fun h0 => by
      obtain ⟨⟨cur, hc, hs1⟩, h8, h9⟩ := hrow.2 h0
      exact ⟨⟨cur, (hb bf h6 (Array.getElem?_eq_some_iff.1 hc).1).trans hc, hs1⟩, h8, h9⟩⟩
    refine ⟨al, af, cl, cf, bl, bf, h1, h2, ⟨h5, h6⟩, hrow', fun i x hx => ?_, fun i q hq => ?_⟩
    · obtain ⟨c, e, hl, hc, hr⟩ := h3 i x hx
      exact ⟨c, e, by omega, fun j v hv => (cell _ _ h5 hl).trans (hc j v hv), hr.same hs (fun b hb1 hb2 => hb b (by omega) hb2)⟩
    · obtain ⟨c, e, hl, hz, hn, hc, hr⟩ := h4 i q hq
      exact ⟨c, e, by omega, hz, (cell _ _ h6 hl).trans hn, fun j v hv => (cell _ _ h6 hl).trans (hc j v hv), hr.same hs (fun b hb1 hb2 => hb b (by omega) hb2)⟩
theorem RepG.later {d m : Nat} {w w' : World} {v : V} {cs : List Value} (h : RepG d m w v cs) (hB : Below w.heap.size w w') : RepG d m w' v cs := h.same hB.size (fun b _ hb => hB.block b hb)

/-- A place that is still to be copied: where it lies, how deep, and the tree. -/
structure Pl where
  b : Nat
  o : Nat
  d : Nat
  v : V
/-- A tree is there. -/
def Pl.done (p : Pl) (m : Nat) (w : World) : Prop := p.b < w.heap.size ∧ ∃ c, CellsAt w p.b p.o c ∧ RepG p.d m w p.v c
/-- What a block of trees is. -/
def Tree (w : World) (b : Nat) : Prop := ∃ cs t, w.heap[b]? = some (.cells cs t (0, 0)) ∧ (t = 38 ∨ t = 111)
/-- What is there ahead of copying. -/
def Pl.todo (p : Pl) (w0 w : World) : Prop := w0.heap.size ≤ p.b ∧ Tree w p.b ∧ ∃ c, CellsAt w p.b p.o c ∧ RepN p.d w0 p.v c
def Pl.off (p q : Pl) : Prop := p.b ≠ q.b ∨ p.o + 5 ≤ q.o ∨ q.o + 5 ≤ p.o
/-- Is it one of the two cells of a place that copying changes? -/
def Pl.hit (p : Pl) (b o : Nat) : Prop := b = p.b ∧ (o = p.o + 3 ∨ o = p.o + 4)
/-- A later world has what this one has, but at the places. -/
def Agree (w0 w w' : World) (P : List Pl) : Prop := w.heap.size ≤ w'.heap.size ∧ (∀ b o, w0.heap.size ≤ b → Tree w b → (∀ p ∈ P, ¬ p.hit b o) → w'.cell? ⟨b, o, none⟩ = w.cell? ⟨b, o, none⟩) ∧ ∀ b t n, w0.heap.size ≤ b → (t = 38 ∨ t = 111) → Shape w b t n → Shape w' b t n
/-- How far copying has come. -/
structure Copying (w0 : World) (r : Pl) (m : Nat) (w : World) (P : List Pl) : Prop where
  below : Below w0.heap.size w0 w
  todo : ∀ p ∈ P, p.todo w0 w
  apart : P.Pairwise Pl.off
  good : ∀ w', Agree w0 w w' P → (∀ p ∈ P, p.done w.heap.size w') → r.done m w'
end Go.Proofs.YtobpidmlgldnmaaGreatDoor

/-
  Copying: one list, cell by cell; what one round does.
-/
namespace Go.Proofs.YtobpidmlgldnmaaGreatDoor
open Go.RowKit
set_option maxRecDepth 100000

theorem infoV : (Tryz.prog.info? 38).map (fun i => (i.zero, i.size, i.bytes)) = some (some (.agg #[.int .i64 0, .int .i64 0, .string ⟨#[]⟩, .slice none 0 0, .slice none 0 0]), 5, 80) := by kernel_rfl
theorem infoF : (Tryz.prog.info? 111).map (fun i => (i.zero, i.size, i.bytes)) = some (some (.agg #[.string ⟨#[]⟩, .int .i64 0, .int .i64 0, .string ⟨#[]⟩, .slice none 0 0, .slice none 0 0]), 6, 96) := by kernel_rfl
section
variable {W : World} {ops : Array Oper} {rest : List Oper} {o : Oper} {a : Act} {Q : Exit → Act → World → Prop}
end
end Go.Proofs.YtobpidmlgldnmaaGreatDoor

/-
  Copying: what one round does to what is still to be copied.
-/
namespace Go.Proofs.YtobpidmlgldnmaaGreatDoor
open Go.RowKit
set_option maxRecDepth 100000

def plL (b d : Nat) (l : List V) : List Pl := l.zipIdx.map fun x => ⟨b, x.2 * 5, d, x.1⟩
def plF (b d : Nat) (l : List (ByteArray × V)) : List Pl := l.zipIdx.map fun x => ⟨b, x.2 * 6 + 1, d, x.1.2⟩
theorem plL_get (b d : Nat) (l : List V) (i : Nat) : (plL b d l)[i]? = (l[i]?).map fun x => ⟨b, i * 5, d, x⟩ := by
  simp [plL, List.getElem?_zipIdx]; cases l[i]? <;> simp
theorem plF_get (b d : Nat) (l : List (ByteArray × V)) (i : Nat) : (plF b d l)[i]? = (l[i]?).map fun x => ⟨b, i * 6 + 1, d, x.2⟩ := by
  simp [plF, List.getElem?_zipIdx]; cases l[i]? <;> simp
theorem plL_len (b d : Nat) (l : List V) : (plL b d l).length = l.length := by simp [plL]
theorem plF_len (b d : Nat) (l : List (ByteArray × V)) : (plF b d l).length = l.length := by simp [plF]
/-- A place whose two lists have been copied, their elements not yet. -/
structure Split (w0 w : World) (p : Pl) (d : Nat) (al af : Option Addr) (cl cf bl bf : Nat) (w1 : World) : Prop where
  size : w.heap.size ≤ w1.heap.size
  below : Below w0.heap.size w0 w1
  cell : ∀ b o, Tree w b → ¬ p.hit b o → w1.cell? ⟨b, o, none⟩ = w.cell? ⟨b, o, none⟩
  tree : ∀ b, Tree w b → Tree w1 b
  s3 : w1.cell? ⟨p.b, p.o + 3, none⟩ = some (.slice al p.v.l.length cl)
  s4 : w1.cell? ⟨p.b, p.o + 4, none⟩ = some (.slice af p.v.f.length cf)
  ge : w.heap.size ≤ bl ∧ w.heap.size ≤ bf
  shape : ∀ b t n, (t = 38 ∨ t = 111) → Shape w b t n → Shape w1 b t n
  row : RowF w1 p.v.f.length af cf bf
  lt : 0 < p.v.l.length ∨ 0 < p.v.f.length → max bl bf < w1.heap.size
  ne : 0 < p.v.l.length → 0 < p.v.f.length → bl ≠ bf
  lAt : ∀ (i : Nat) (x : V), p.v.l[i]? = some x → al = some ⟨bl, 0, none⟩ ∧ Tree w1 bl ∧ ∃ c, CellsAt w1 bl (i * 5) c ∧ RepN d w0 x c
  fAt : ∀ (i : Nat) (q : ByteArray × V), p.v.f[i]? = some q → af = some ⟨bf, 0, none⟩ ∧ Tree w1 bf ∧ q.1.size ≤ maxLen ∧ w1.cell? ⟨bf, i * 6, none⟩ = some (.string q.1) ∧ ∃ c, CellsAt w1 bf (i * 6 + 1) c ∧ RepN d w0 q.2 c
/-- Appending to the list of work leaves it. -/
theorem Split.grow {w0 w w1 w2 : World} {p : Pl} {d : Nat} {al af : Option Addr} {cl cf bl bf : Nat} (h : Split w0 w p d al af cl cf bl bf w1) (hp : Tree w1 p.b) (hb : Below w0.heap.size w0 w2) (hs : w1.heap.size ≤ w2.heap.size) (hg : ∀ b, Tree w1 b → w2.heap[b]? = w1.heap[b]?) : Split w0 w p d al af cl cf bl bf w2 := by
  have hc : ∀ b o, Tree w1 b → w2.cell? ⟨b, o, none⟩ = w1.cell? ⟨b, o, none⟩ := fun b o ht => World.cell?_of_block (a := ⟨b, o, none⟩) (hg b ht)
  have ht : ∀ b, Tree w1 b → Tree w2 b := fun b ⟨cs, t, h1, h2⟩ => ⟨cs, t, (hg b ⟨cs, t, h1, h2⟩).trans h1, h2⟩
  have sh1 : ∀ b t n, (t = 38 ∨ t = 111) → Shape w1 b t n → Shape w2 b t n := fun b t n h1 ⟨cs, h2, h3⟩ => ⟨cs, (hg b ⟨cs, t, h2, h1⟩).trans h2, h3⟩
  have sh : ∀ b t n, (t = 38 ∨ t = 111) → Shape w b t n → Shape w2 b t n := fun b t n h1 h2 => sh1 b t n h1 (h.shape b t n h1 h2)
  refine ⟨Nat.le_trans h.size hs, hb, fun b o h1 h2 => (hc b o (h.tree b h1)).trans (h.cell b o h1 h2), fun b hb => ht b (h.tree b hb), (hc _ _ hp).trans h.s3, (hc _ _ hp).trans h.s4, h.ge, sh, ⟨h.row.1, fun h0 => ⟨sh1 _ _ _ (.inr rfl) (h.row.2 h0).1, (h.row.2 h0).2⟩⟩, fun h' => Nat.lt_of_lt_of_le (h.lt h') hs, h.ne, fun i x hx => ?_, fun i q hq => ?_⟩
  · obtain ⟨e, h1, c, h2, h3⟩ := h.lAt i x hx
    exact ⟨e, ht _ h1, c, fun j v hv => (hc _ _ h1).trans (h2 j v hv), h3⟩
  · obtain ⟨e, h1, hz, hn, c, h2, h3⟩ := h.fAt i q hq
    exact ⟨e, ht _ h1, hz, (hc _ _ h1).trans hn, c, fun j v hv => (hc _ _ h1).trans (h2 j v hv), h3⟩
theorem Tree.lt {w : World} {b : Nat} (h : Tree w b) : b < w.heap.size := by
  obtain ⟨cs, t, h1, _⟩ := h
  exact (Array.getElem?_eq_some_iff.1 h1).1
theorem todo_cells {w0 w : World} {p : Pl} {d : Nat} (h : p.todo w0 w) (hd : p.d = d + 1) : ∃ al af cl cf, CellsAt w p.b p.o [.int .i64 p.v.k, .int .i64 p.v.n, .string p.v.s, .slice al p.v.l.length cl, .slice af p.v.f.length cf] ∧ (p.v.s.size ≤ maxLen ∧ p.v.l.length ≤ maxLen ∧ p.v.f.length ≤ maxLen) ∧ LAt d w0 p.v.l al ∧ FAt d w0 p.v.f af := by
  obtain ⟨_, _, c, hc, hr⟩ := h
  rw [hd] at hr
  obtain ⟨al, af, cl, cf, rfl, h1, h2, h3⟩ := hr
  exact ⟨al, af, cl, cf, hc, h1, h2, h3⟩
theorem mem_plL {b d : Nat} {l : List V} {p : Pl} (h : p ∈ plL b d l) : ∃ i x, l[i]? = some x ∧ p = ⟨b, i * 5, d, x⟩ := by
  obtain ⟨i, hi⟩ := List.getElem?_of_mem h
  rw [plL_get, Option.map_eq_some_iff] at hi
  obtain ⟨x, h1, rfl⟩ := hi
  exact ⟨i, x, h1, rfl⟩
theorem mem_plF {b d : Nat} {l : List (ByteArray × V)} {p : Pl} (h : p ∈ plF b d l) : ∃ i x, l[i]? = some x ∧ p = ⟨b, i * 6 + 1, d, x.2⟩ := by
  obtain ⟨i, hi⟩ := List.getElem?_of_mem h
  rw [plF_get, Option.map_eq_some_iff] at hi
  obtain ⟨x, h1, rfl⟩ := hi
  exact ⟨i, x, h1, rfl⟩
theorem pw_plL (b d : Nat) (l : List V) : (plL b d l).Pairwise Pl.off := by
  rw [List.pairwise_iff_getElem]
  intro i j hi hj hij
  have e1 := plL_get b d l i
  have e2 := plL_get b d l j
  rw [plL_len] at hi hj
  rw [List.getElem?_eq_getElem (by rw [plL_len]; exact hi), List.getElem?_eq_getElem hi] at e1
  rw [List.getElem?_eq_getElem (by rw [plL_len]; exact hj), List.getElem?_eq_getElem hj] at e2
  simp only [Option.map_some, Option.some.injEq] at e1 e2
  rw [e1, e2]
  exact .inr (.inl (by simp; omega))
theorem pw_plF (b d : Nat) (l : List (ByteArray × V)) : (plF b d l).Pairwise Pl.off := by
  rw [List.pairwise_iff_getElem]
  intro i j hi hj hij
  have e1 := plF_get b d l i
  have e2 := plF_get b d l j
  rw [plF_len] at hi hj
  rw [List.getElem?_eq_getElem (by rw [plF_len]; exact hi), List.getElem?_eq_getElem hi] at e1
  rw [List.getElem?_eq_getElem (by rw [plF_len]; exact hj), List.getElem?_eq_getElem hj] at e2
  simp only [Option.map_some, Option.some.injEq] at e1 e2
  rw [e1, e2]
  exact .inr (.inl (by simp; omega))
theorem off_hit {p q : Pl} (h : p.off q) {b o : Nat} (hq : b = q.b) (ho : q.o ≤ o ∧ o < q.o + 5) : ¬ p.hit b o := by
  rintro ⟨h1, h2⟩
  rcases h with h | h | h
  · exact h (h1.symm.trans hq)
  · omega
  · omega

/-- One round. -/
theorem Copying.round {w0 w w1 : World} {r p : Pl} {m d : Nat} {P0 : List Pl} {al af : Option Addr} {cl cf bl bf : Nat} (h : Copying w0 r m w (P0 ++ [p])) (hd : p.d = d + 1) (hS : Split w0 w p d al af cl cf bl bf w1) :
    Copying w0 r m w1 (P0 ++ (plL bl d p.v.l ++ plF bf d p.v.f)) := by
  obtain ⟨hbel, htodo, hap, hgood⟩ := h
  have hpt := htodo p (by simp)
  have hap' := List.pairwise_append.1 hap
  have hoff : ∀ q ∈ P0, q.off p := fun q hq => hap'.2.2 q hq p (by simp)
  obtain ⟨al0, af0, cl0, cf0, hcc, hszs, _, _⟩ := todo_cells hpt hd
  have hpw := hpt.1
  have hpl := hpt.2.1
  have newL : ∀ q ∈ plL bl d p.v.l, w.heap.size ≤ q.b := fun q hq => by
    obtain ⟨i, x, _, rfl⟩ := mem_plL hq; exact hS.ge.1
  have newF : ∀ q ∈ plF bf d p.v.f, w.heap.size ≤ q.b := fun q hq => by
    obtain ⟨i, x, _, rfl⟩ := mem_plF hq; exact hS.ge.2
  have oldlt : ∀ q ∈ P0, q.b < w.heap.size := fun q hq => (htodo q (by simp [hq])).2.1.lt
  refine ⟨hS.below, fun q hq => ?_, ?_, fun w' hA hD => ?_⟩
  · rcases List.mem_append.1 hq with hq | hq
    · obtain ⟨h1, h2, c, h3, h4⟩ := htodo q (by simp [hq])
      refine ⟨h1, hS.tree _ h2, c, fun j v hv => ?_, h4⟩
      have hj : j < 5 := by
        obtain ⟨e, he⟩ := h4.inv
        rw [he] at h4
        obtain ⟨_, _, _, _, rfl, _⟩ := h4
        have := (List.getElem?_eq_some_iff.1 hv).1
        simpa using this
      rw [hS.cell _ _ h2 ?_]
      · exact h3 j v hv
      · rintro ⟨e1, e2⟩
        rcases hoff q hq with h | h | h
        · exact h e1
        · omega
        · omega
    · rcases List.mem_append.1 hq with hq | hq
      · obtain ⟨i, x, hx, rfl⟩ := mem_plL hq
        obtain ⟨_, h1, c, h2, h3⟩ := hS.lAt i x hx
        exact ⟨Nat.le_trans hbel.size hS.ge.1, h1, c, h2, h3⟩
      · obtain ⟨i, x, hx, rfl⟩ := mem_plF hq
        obtain ⟨_, h1, _, _, c, h2, h3⟩ := hS.fAt i x hx
        exact ⟨Nat.le_trans hbel.size hS.ge.2, h1, c, h2, h3⟩
  · refine List.pairwise_append.2 ⟨hap'.1, List.pairwise_append.2 ⟨pw_plL _ _ _, pw_plF _ _ _, fun x hx y hy => ?_⟩, fun x hx y hy => ?_⟩
    · obtain ⟨i, u, hu, rfl⟩ := mem_plL hx
      obtain ⟨j, v, hv, rfl⟩ := mem_plF hy
      exact .inl (hS.ne (by have := (List.getElem?_eq_some_iff.1 hu).1; omega) (by have := (List.getElem?_eq_some_iff.1 hv).1; omega))
    · have h1 := oldlt x hx
      rcases List.mem_append.1 hy with hy | hy
      · have := newL y hy; exact .inl (by omega)
      · have := newF y hy; exact .inl (by omega)
  · -- the tree at p is there
    have hs' : w.heap.size ≤ w'.heap.size := Nat.le_trans hS.size hA.1
    have cellp : ∀ o, p.o ≤ o → o < p.o + 5 → w'.cell? ⟨p.b, o, none⟩ = w1.cell? ⟨p.b, o, none⟩ := fun o h1 h2 => by
      refine hA.2.1 p.b o hpw (hS.tree _ hpl) (fun q hq => ?_)
      rcases List.mem_append.1 hq with hq | hq
      · exact off_hit (hoff q hq) rfl ⟨h1, h2⟩
      · rintro ⟨e1, _⟩
        have := hpl.lt
        rcases List.mem_append.1 hq with hq | hq
        · have := newL q hq; omega
        · have := newF q hq; omega
    have pdone : p.done w.heap.size w' := by
      refine ⟨Nat.lt_of_lt_of_le hpl.lt hs', [.int .i64 p.v.k, .int .i64 p.v.n, .string p.v.s, .slice al p.v.l.length cl, .slice af p.v.f.length cf], ?_, ?_⟩
      · intro j v hv
        match j, hv with
        | 0, hv => simp at hv; subst hv; rw [cellp _ (by omega) (by omega), hS.cell _ _ hpl (by rintro ⟨_, h⟩; omega)]; exact hcc 0 _ rfl
        | 1, hv => simp at hv; subst hv; rw [cellp _ (by omega) (by omega), hS.cell _ _ hpl (by rintro ⟨_, h⟩; omega)]; exact hcc 1 _ rfl
        | 2, hv => simp at hv; subst hv; rw [cellp _ (by omega) (by omega), hS.cell _ _ hpl (by rintro ⟨_, h⟩; omega)]; exact hcc 2 _ rfl
        | 3, hv => simp at hv; subst hv; rw [cellp _ (by omega) (by omega)]; exact hS.s3
        | 4, hv => simp at hv; subst hv; rw [cellp _ (by omega) (by omega)]; exact hS.s4
      · rw [hd]
        refine ⟨al, af, cl, cf, bl, bf, rfl, hszs, hS.ge, ⟨hS.row.1, fun h0 => ⟨hA.2.2 _ _ _ (Nat.le_trans hbel.size hS.ge.2) (.inr rfl) (hS.row.2 h0).1, (hS.row.2 h0).2⟩⟩, fun i x hx => ?_, fun i q hq => ?_⟩
        · have hi : 0 < p.v.l.length := by have := (List.getElem?_eq_some_iff.1 hx).1; omega
          obtain ⟨e, h1, _⟩ := hS.lAt i x hx
          obtain ⟨h2, c, h3, h4⟩ := hD ⟨bl, i * 5, d, x⟩ (by simp; exact .inr (.inl (List.mem_of_getElem? (by rw [plL_get, hx]; rfl))))
          exact ⟨c, e, h2, h3, h4.low (hS.lt (.inl hi))⟩
        · have hi : 0 < p.v.f.length := by have := (List.getElem?_eq_some_iff.1 hq).1; omega
          obtain ⟨e, h1, hz, hn, _⟩ := hS.fAt i q hq
          obtain ⟨h2, c, h3, h4⟩ := hD ⟨bf, i * 6 + 1, d, q.2⟩ (by simp; exact .inr (.inr (List.mem_of_getElem? (by rw [plF_get, hq]; rfl))))
          refine ⟨c, e, h2, hz, ?_, h3, h4.low (hS.lt (.inr hi))⟩
          rw [hA.2.1 bf (i * 6) (Nat.le_trans hbel.size hS.ge.2) h1 (fun q' hq' => ?_)]
          · exact hn
          · rintro ⟨e1, e2⟩
            rcases List.mem_append.1 hq' with hq' | hq'
            · have := oldlt q' hq'; have := hS.ge.2; omega
            · rcases List.mem_append.1 hq' with hq' | hq'
              · obtain ⟨k, y, hy, rfl⟩ := mem_plL hq'
                exact hS.ne (by have := (List.getElem?_eq_some_iff.1 hy).1; omega) hi e1.symm
              · obtain ⟨k, y, hy, rfl⟩ := mem_plF hq'
                simp at e2; omega
    refine hgood w' ⟨hs', fun b o hb ht hn => ?_, fun b t n hb ht hsh => hA.2.2 b t n hb ht (hS.shape b t n ht hsh)⟩ (fun q hq => ?_)
    · rw [hA.2.1 b o hb (hS.tree b ht) (fun q hq => ?_)]
      · exact hS.cell b o ht (hn p (by simp))
      · rcases List.mem_append.1 hq with hq | hq
        · exact hn q (by simp [hq])
        · rintro ⟨e1, _⟩
          have := ht.lt
          rcases List.mem_append.1 hq with hq | hq
          · have := newL q hq; omega
          · have := newF q hq; omega
    · rcases List.mem_append.1 hq with hq | hq
      · obtain ⟨h1, c, h2, h3⟩ := hD q (by simp [hq])
        exact ⟨h1, c, h2, h3.low hS.size⟩
      · rw [List.mem_singleton.1 hq]; exact pdone
end Go.Proofs.YtobpidmlgldnmaaGreatDoor
