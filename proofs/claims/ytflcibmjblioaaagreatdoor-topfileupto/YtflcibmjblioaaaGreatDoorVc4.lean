/-
  Joined: Vc2, Vc3, Vc4.
-/
import Derived.Test.YtflcibmjblioaaaGreatDoorVc1

/-
  Copying: one list, cell by cell; what one round does.
-/
namespace Go.Proofs.YtflcibmjblioaaaGreatDoor
open Go.RowKit
set_option maxRecDepth 100000

theorem infoV : (Tryz.prog.info? 40).map (fun i => (i.zero, i.size, i.bytes)) = some (some (.agg #[.int .i64 0, .int .i64 0, .string ⟨#[]⟩, .slice none 0 0, .slice none 0 0]), 5, 80) := by kernel_rfl
theorem infoF : (Tryz.prog.info? 74).map (fun i => (i.zero, i.size, i.bytes)) = some (some (.agg #[.string ⟨#[]⟩, .int .i64 0, .int .i64 0, .string ⟨#[]⟩, .slice none 0 0, .slice none 0 0]), 6, 96) := by kernel_rfl
theorem infoPt : (Tryz.prog.info? 98).map (fun i => (i.zero, i.size, i.bytes)) = some (some (.pointer none), 1, 8) := by kernel_rfl

/-- A list's cells, in a block of their own. -/
def Cloned (e size : Nat) (w : World) (a : Option Addr) (n : Nat) (a' : Option Addr) (c' : Nat) (w' : World) : Prop :=
  w.grownBy w' none ∧ ((n = 0 → a' = none ∧ c' = 0) ∧ (0 < n → Shape w' w.heap.size e (c' * size) ∧ n ≤ c' ∧ c' ≤ maxLen)) ∧ (0 < n → a' = some ⟨w.heap.size, 0, none⟩ ∧ (∃ cur, w'.heap[w.heap.size]? = some (.cells cur e (0, 0))) ∧ ∀ b off j, a = some ⟨b, off, none⟩ → j < n * size → w'.cell? ⟨w.heap.size, j, none⟩ = w.cell? ⟨b, off + j, none⟩)
theorem run_clone {w : World} (t ty e : TypeId) (i : TypeInfo) (z : Value) (size bytes : Nat) (ht : Tryz.prog.underlying t = some (.slice e)) (hi : Tryz.prog.info? e = some i) (hz : i.zero = some z)
    (hsize : i.size = size) (hby : i.bytes = bytes) (hzs : z.cells.size = size) (hsz : 0 < size) (hb100 : bytes ≤ 100) (a : Option Addr) (n c : Nat) (hn : n ≤ 1048576)
    (hc : 0 < n → ∃ b off, a = some ⟨b, off, none⟩ ∧ ∀ j, j < n * size → ∃ u, w.cell? ⟨b, off + j, none⟩ = some u ∧ u.oneCell' = true) :
    ∃ a' c' w', (Builtin.append_ #[t, t] ty #[.slice none 0 0, .slice a n c]).run Tryz.prog w = .ok (.slice a' n c') w' ∧ Cloned e size w a n a' c' w' := by
  by_cases h0 : n = 0
  · subst h0
    refine ⟨none, 0, w, ?_, ⟨rfl, rfl, rfl, Nat.le_refl _, fun _ _ _ => rfl⟩, ⟨fun _ => ⟨rfl, rfl⟩, fun h => by omega⟩, fun h => by omega⟩
    cases a <;> simp [Builtin.append_, run_underlying ht, sizeOf, typeInfo, hi, Builtin.lenOf, Builtin.firstCells, loadCells, loadCellsFrom]
  · obtain ⟨b, off, rfl, hcc⟩ := hc (by omega)
    have hnews : ∀ j u, ((List.range (n * size)).map fun j => (w.cell? ⟨b, off + j, none⟩).getD undef)[j]? = some u → w.cell? ((⟨b, off, none⟩ : Addr).add j) = some u := fun j u hu => by
      simp only [List.getElem?_map, Option.map_eq_some_iff] at hu
      obtain ⟨k, hk, rfl⟩ := hu
      have hj := (List.getElem?_eq_some_iff.1 hk).1
      simp at hj
      have : k = j := by simpa [List.getElem?_range hj] using hk.symm
      subst this
      obtain ⟨u, h1, _⟩ := hcc k hj
      rw [Lib.add_plain, h1]; rfl
    obtain ⟨g, cap, w', hr, hown, hgrow, hat, _⟩ := run_append_lies (P := Tryz.prog) w t ty w.heap.size e i z size bytes ht hi hz hsize hby hzs hsz (.slice none 0 0) 0 [] (World.ownsRow_nil _ _ _ _) ⟨b, off, none⟩ n c _ (by simp) hnews
      (fun u hu => by
        obtain ⟨k, hk, rfl⟩ := List.mem_map.1 hu
        obtain ⟨u, h1, h2⟩ := hcc k (by simpa using hk)
        rw [h1]; exact h2) (by omega) (by unfold maxLen; omega) (by have := Nat.mul_le_mul (show 0 + n ≤ 1048576 by omega) hb100; omega) (Nat.le_refl _) w.heap.size rfl
    have hg : g = w.heap.size := by
      rcases hat with h | h
      · simp [Value.ownBlock] at h
      · exact h
    subst hg
    rw [Nat.zero_add] at hr hown
    refine ⟨_, cap, w', hr, hgrow, ⟨fun h => absurd h h0, fun _ => ?_⟩, fun _ => ⟨rfl, ?_, fun b' off' j e hj => ?_⟩⟩
    · rcases hown.2 with ⟨h, _⟩ | ⟨g, cp, cur, h, _, hh, h1, h2, h3, _⟩
      · cases h
      · cases h; exact ⟨⟨cur, hh, h3⟩, h1, h2⟩
    · rcases hown.2 with ⟨h, _⟩ | ⟨g, cp, cur, h, _, hh, _⟩
      · cases h
      · cases h; exact ⟨cur, hh⟩
    · cases e
      rw [hown.cellAt j (by omega)]
      obtain ⟨u, h1, _⟩ := hcc j hj
      simp [hj, h1]
section
variable {W : World} {ops : Array Oper} {rest : List Oper} {o : Oper} {a : Act} {Q : Exit → Act → World → Prop}
theorem wpClone (hgd : o.guard = none) (s x : Operand) (t e : TypeId) (ho : o.op = .call { callee := .builtin .append, args := #[s, x], argTypes := #[t, t] }) (i : TypeInfo) (z : Value) (size bytes : Nat)
    (ht : Tryz.prog.underlying t = some (.slice e)) (hi : Tryz.prog.info? e = some i) (hz : i.zero = some z) (hsize : i.size = size) (hby : i.bytes = bytes) (hzs : z.cells.size = size) (hsz : 0 < size) (hb100 : bytes ≤ 100)
    (hs : a.eval s = .slice none 0 0) (ad : Option Addr) (n c : Nat) (hx : a.eval x = .slice ad n c) (hn : n ≤ 1048576)
    (hc : 0 < n → ∃ b off, ad = some ⟨b, off, none⟩ ∧ ∀ j, j < n * size → ∃ u, W.cell? ⟨b, off + j, none⟩ = some u ∧ u.oneCell' = true)
    (h : ∀ a' c' w', Cloned e size W ad n a' c' w' → wpList Tryz.prog ops Q rest (a.put o.dst (.slice a' n c')) w') : wpList Tryz.prog ops Q (o :: rest) a W := by
  obtain ⟨a', c', w', hr, h2⟩ := run_clone (w := W) t o.type e i z size bytes ht hi hz hsize hby hzs hsz hb100 ad n c hn hc
  refine wpList_plain hgd fun K hK => ?_
  unfold Oper.wp execOp
  simp only [ho, resolve, invoke, builtin, Sem.run_bind, Sem.run_pure, Result.andThen_ok, List.map_toArray, List.map_cons, List.map_nil, hs, hx, hr]
  exact hK _ _ (h a' c' w' h2)
end
end Go.Proofs.YtflcibmjblioaaaGreatDoor

/-
  Copying: what one round does to what is still to be copied.
-/
namespace Go.Proofs.YtflcibmjblioaaaGreatDoor
open Go.RowKit
set_option maxRecDepth 100000

def plL (b d : Nat) (l : List V) : List Pl := l.zipIdx.map fun x => ⟨b, x.2 * 5, d, x.1⟩
def plF (b d : Nat) (l : List (ByteArray × V)) : List Pl := l.zipIdx.map fun x => ⟨b, x.2 * 6 + 1, d, x.1.2⟩
theorem plL_get (b d : Nat) (l : List V) (i : Nat) : (plL b d l)[i]? = (l[i]?).map fun x => ⟨b, i * 5, d, x⟩ := by
  simp [plL, List.getElem?_zipIdx]; cases l[i]? <;> simp
theorem plF_get (b d : Nat) (l : List (ByteArray × V)) (i : Nat) : (plF b d l)[i]? = (l[i]?).map fun x => ⟨b, i * 6 + 1, d, x.2⟩ := by
  simp [plF, List.getElem?_zipIdx]; cases l[i]? <;> simp
theorem plL_len (b d : Nat) (l : List V) : (plL b d l).length = l.length := by simp [plL]
theorem plF_len (b d : Nat) (l : List (ByteArray × V)) : (plF b d l).length = l.length := by simp [plF]
theorem plL_take (b d : Nat) (l : List V) (i : Nat) (h : i < l.length) : plL b d (l.take (i + 1)) = plL b d (l.take i) ++ [⟨b, i * 5, d, l[i]⟩] := by
  rw [List.take_succ_eq_append_getElem h]
  unfold plL
  rw [List.zipIdx_append, List.map_append, List.length_take, Nat.min_eq_left (Nat.le_of_lt h)]
  simp
theorem plF_take (b d : Nat) (l : List (ByteArray × V)) (i : Nat) (h : i < l.length) : plF b d (l.take (i + 1)) = plF b d (l.take i) ++ [⟨b, i * 6 + 1, d, l[i].2⟩] := by
  rw [List.take_succ_eq_append_getElem h]
  unfold plF
  rw [List.zipIdx_append, List.map_append, List.length_take, Nat.min_eq_left (Nat.le_of_lt h)]
  simp
theorem plL_left (b d : Nat) (l : List V) : leftC (plL b d l) = cntL l := by
  have : ∀ (l : List V) (k : Nat), leftC ((l.zipIdx k).map fun x => ⟨b, x.2 * 5, d, x.1⟩) = cntL l := fun l => by
    induction l with
    | nil => intro k; simp [leftC, cntL]
    | cons x l ih => intro k; have := ih (k + 1); simp [leftC, cntL] at *; exact this
  exact this l 0
theorem plF_left (b d : Nat) (l : List (ByteArray × V)) : leftC (plF b d l) = cntF l := by
  have : ∀ (l : List (ByteArray × V)) (k : Nat), leftC ((l.zipIdx k).map fun x => ⟨b, x.2 * 6 + 1, d, x.1.2⟩) = cntF l := fun l => by
    induction l with
    | nil => intro k; simp [leftC, cntF]
    | cons x l ih => intro k; have := ih (k + 1); simp [leftC, cntF_cons] at *; exact this
  exact this l 0

/-- A place whose two lists have been copied, their elements not yet. -/
structure Split (w0 w : World) (p : Pl) (d : Nat) (al af : Option Addr) (cl cf bl bf : Nat) (w1 : World) : Prop where
  size : w.heap.size ≤ w1.heap.size
  below : Below w0.heap.size w0 w1
  cell : ∀ b o, Tree w b → ¬ p.hit b o → w1.cell? ⟨b, o, none⟩ = w.cell? ⟨b, o, none⟩
  tree : ∀ b, Tree w b → Tree w1 b
  s3 : w1.cell? ⟨p.b, p.o + 3, none⟩ = some (.slice al p.v.l.length cl)
  s4 : w1.cell? ⟨p.b, p.o + 4, none⟩ = some (.slice af p.v.f.length cf)
  ge : w.heap.size ≤ bl ∧ w.heap.size ≤ bf
  shape : ∀ b t n, (t = 40 ∨ t = 74) → Shape w b t n → Shape w1 b t n
  row : RowF w1 p.v.f.length af cf bf
  lt : 0 < p.v.l.length ∨ 0 < p.v.f.length → max bl bf < w1.heap.size
  ne : 0 < p.v.l.length → 0 < p.v.f.length → bl ≠ bf
  lAt : ∀ (i : Nat) (x : V), p.v.l[i]? = some x → al = some ⟨bl, 0, none⟩ ∧ Tree w1 bl ∧ ∃ c, CellsAt w1 bl (i * 5) c ∧ RepN d w0 x c
  fAt : ∀ (i : Nat) (q : ByteArray × V), p.v.f[i]? = some q → af = some ⟨bf, 0, none⟩ ∧ Tree w1 bf ∧ q.1.size ≤ maxLen ∧ w1.cell? ⟨bf, i * 6, none⟩ = some (.string q.1) ∧ ∃ c, CellsAt w1 bf (i * 6 + 1) c ∧ RepN d w0 q.2 c
/-- Appending to the list of work leaves it. -/
theorem Split.grow {w0 w w1 w2 : World} {p : Pl} {d : Nat} {al af : Option Addr} {cl cf bl bf : Nat} (h : Split w0 w p d al af cl cf bl bf w1) (hp : Tree w1 p.b) (hb : Below w0.heap.size w0 w2) (hs : w1.heap.size ≤ w2.heap.size) (hg : ∀ b, Tree w1 b → w2.heap[b]? = w1.heap[b]?) : Split w0 w p d al af cl cf bl bf w2 := by
  have hc : ∀ b o, Tree w1 b → w2.cell? ⟨b, o, none⟩ = w1.cell? ⟨b, o, none⟩ := fun b o ht => World.cell?_of_block (a := ⟨b, o, none⟩) (hg b ht)
  have ht : ∀ b, Tree w1 b → Tree w2 b := fun b ⟨cs, t, h1, h2⟩ => ⟨cs, t, (hg b ⟨cs, t, h1, h2⟩).trans h1, h2⟩
  have sh1 : ∀ b t n, (t = 40 ∨ t = 74) → Shape w1 b t n → Shape w2 b t n := fun b t n h1 ⟨cs, h2, h3⟩ => ⟨cs, (hg b ⟨cs, t, h2, h1⟩).trans h2, h3⟩
  have sh : ∀ b t n, (t = 40 ∨ t = 74) → Shape w b t n → Shape w2 b t n := fun b t n h1 h2 => sh1 b t n h1 (h.shape b t n h1 h2)
  refine ⟨Nat.le_trans h.size hs, hb, fun b o h1 h2 => (hc b o (h.tree b h1)).trans (h.cell b o h1 h2), fun b hb => ht b (h.tree b hb), (hc _ _ hp).trans h.s3, (hc _ _ hp).trans h.s4, h.ge, sh, ⟨h.row.1, fun h0 => ⟨sh1 _ _ _ (.inr rfl) (h.row.2 h0).1, (h.row.2 h0).2⟩⟩, fun h' => Nat.lt_of_lt_of_le (h.lt h') hs, h.ne, fun i x hx => ?_, fun i q hq => ?_⟩
  · obtain ⟨e, h1, c, h2, h3⟩ := h.lAt i x hx
    exact ⟨e, ht _ h1, c, fun j v hv => (hc _ _ h1).trans (h2 j v hv), h3⟩
  · obtain ⟨e, h1, hz, hn, c, h2, h3⟩ := h.fAt i q hq
    exact ⟨e, ht _ h1, hz, (hc _ _ h1).trans hn, c, fun j v hv => (hc _ _ h1).trans (h2 j v hv), h3⟩
theorem Tree.lt {w : World} {b : Nat} (h : Tree w b) : b < w.heap.size := by
  obtain ⟨cs, t, h1, _⟩ := h
  exact (Array.getElem?_eq_some_iff.1 h1).1
theorem todo_cells {w0 w : World} {p : Pl} {d : Nat} (h : p.todo w0 w) (hd : p.d = d + 1) : ∃ al af cl cf, CellsAt w p.b p.o [.int .i64 p.v.k, .int .i64 p.v.n, .string p.v.s, .slice al p.v.l.length cl, .slice af p.v.f.length cf] ∧ (p.v.s.size ≤ maxLen ∧ p.v.l.length ≤ maxLen ∧ p.v.f.length ≤ maxLen) ∧ LAt d w0 p.v.l al ∧ FAt d w0 p.v.f af := by
  obtain ⟨_, _, c, hc, hr⟩ := h
  rw [hd] at hr
  obtain ⟨al, af, cl, cf, rfl, h1, h2, h3⟩ := hr
  exact ⟨al, af, cl, cf, hc, h1, h2, h3⟩
theorem mem_plL {b d : Nat} {l : List V} {p : Pl} (h : p ∈ plL b d l) : ∃ i x, l[i]? = some x ∧ p = ⟨b, i * 5, d, x⟩ := by
  obtain ⟨i, hi⟩ := List.getElem?_of_mem h
  rw [plL_get, Option.map_eq_some_iff] at hi
  obtain ⟨x, h1, rfl⟩ := hi
  exact ⟨i, x, h1, rfl⟩
theorem mem_plF {b d : Nat} {l : List (ByteArray × V)} {p : Pl} (h : p ∈ plF b d l) : ∃ i x, l[i]? = some x ∧ p = ⟨b, i * 6 + 1, d, x.2⟩ := by
  obtain ⟨i, hi⟩ := List.getElem?_of_mem h
  rw [plF_get, Option.map_eq_some_iff] at hi
  obtain ⟨x, h1, rfl⟩ := hi
  exact ⟨i, x, h1, rfl⟩
theorem pw_plL (b d : Nat) (l : List V) : (plL b d l).Pairwise Pl.off := by
  rw [List.pairwise_iff_getElem]
  intro i j hi hj hij
  have e1 := plL_get b d l i
  have e2 := plL_get b d l j
  rw [plL_len] at hi hj
  rw [List.getElem?_eq_getElem (by rw [plL_len]; exact hi), List.getElem?_eq_getElem hi] at e1
  rw [List.getElem?_eq_getElem (by rw [plL_len]; exact hj), List.getElem?_eq_getElem hj] at e2
  simp only [Option.map_some, Option.some.injEq] at e1 e2
  rw [e1, e2]
  exact .inr (.inl (by simp; omega))
theorem pw_plF (b d : Nat) (l : List (ByteArray × V)) : (plF b d l).Pairwise Pl.off := by
  rw [List.pairwise_iff_getElem]
  intro i j hi hj hij
  have e1 := plF_get b d l i
  have e2 := plF_get b d l j
  rw [plF_len] at hi hj
  rw [List.getElem?_eq_getElem (by rw [plF_len]; exact hi), List.getElem?_eq_getElem hi] at e1
  rw [List.getElem?_eq_getElem (by rw [plF_len]; exact hj), List.getElem?_eq_getElem hj] at e2
  simp only [Option.map_some, Option.some.injEq] at e1 e2
  rw [e1, e2]
  exact .inr (.inl (by simp; omega))
theorem off_hit {p q : Pl} (h : p.off q) {b o : Nat} (hq : b = q.b) (ho : q.o ≤ o ∧ o < q.o + 5) : ¬ p.hit b o := by
  rintro ⟨h1, h2⟩
  rcases h with h | h | h
  · exact h (h1.symm.trans hq)
  · omega
  · omega

/-- One round. -/
theorem Copying.round {w0 w w1 : World} {r p : Pl} {m d : Nat} {P0 : List Pl} {al af : Option Addr} {cl cf bl bf : Nat} (h : Copying w0 r m w (P0 ++ [p])) (hd : p.d = d + 1) (hS : Split w0 w p d al af cl cf bl bf w1) :
    Copying w0 r m w1 (P0 ++ (plL bl d p.v.l ++ plF bf d p.v.f)) := by
  obtain ⟨hbel, htodo, hap, hgood⟩ := h
  have hpt := htodo p (by simp)
  have hap' := List.pairwise_append.1 hap
  have hoff : ∀ q ∈ P0, q.off p := fun q hq => hap'.2.2 q hq p (by simp)
  obtain ⟨al0, af0, cl0, cf0, hcc, hszs, _, _⟩ := todo_cells hpt hd
  have hpw := hpt.1
  have hpl := hpt.2.1
  have newL : ∀ q ∈ plL bl d p.v.l, w.heap.size ≤ q.b := fun q hq => by
    obtain ⟨i, x, _, rfl⟩ := mem_plL hq; exact hS.ge.1
  have newF : ∀ q ∈ plF bf d p.v.f, w.heap.size ≤ q.b := fun q hq => by
    obtain ⟨i, x, _, rfl⟩ := mem_plF hq; exact hS.ge.2
  have oldlt : ∀ q ∈ P0, q.b < w.heap.size := fun q hq => (htodo q (by simp [hq])).2.1.lt
  refine ⟨hS.below, fun q hq => ?_, ?_, fun w' hA hD => ?_⟩
  · rcases List.mem_append.1 hq with hq | hq
    · obtain ⟨h1, h2, c, h3, h4⟩ := htodo q (by simp [hq])
      refine ⟨h1, hS.tree _ h2, c, fun j v hv => ?_, h4⟩
      have hj : j < 5 := by
        obtain ⟨e, he⟩ := h4.inv
        rw [he] at h4
        obtain ⟨_, _, _, _, rfl, _⟩ := h4
        have := (List.getElem?_eq_some_iff.1 hv).1
        simpa using this
      rw [hS.cell _ _ h2 ?_]
      · exact h3 j v hv
      · rintro ⟨e1, e2⟩
        rcases hoff q hq with h | h | h
        · exact h e1
        · omega
        · omega
    · rcases List.mem_append.1 hq with hq | hq
      · obtain ⟨i, x, hx, rfl⟩ := mem_plL hq
        obtain ⟨_, h1, c, h2, h3⟩ := hS.lAt i x hx
        exact ⟨Nat.le_trans hbel.size hS.ge.1, h1, c, h2, h3⟩
      · obtain ⟨i, x, hx, rfl⟩ := mem_plF hq
        obtain ⟨_, h1, _, _, c, h2, h3⟩ := hS.fAt i x hx
        exact ⟨Nat.le_trans hbel.size hS.ge.2, h1, c, h2, h3⟩
  · refine List.pairwise_append.2 ⟨hap'.1, List.pairwise_append.2 ⟨pw_plL _ _ _, pw_plF _ _ _, fun x hx y hy => ?_⟩, fun x hx y hy => ?_⟩
    · obtain ⟨i, u, hu, rfl⟩ := mem_plL hx
      obtain ⟨j, v, hv, rfl⟩ := mem_plF hy
      exact .inl (hS.ne (by have := (List.getElem?_eq_some_iff.1 hu).1; omega) (by have := (List.getElem?_eq_some_iff.1 hv).1; omega))
    · have h1 := oldlt x hx
      rcases List.mem_append.1 hy with hy | hy
      · have := newL y hy; exact .inl (by omega)
      · have := newF y hy; exact .inl (by omega)
  · -- the tree at p is there
    have hs' : w.heap.size ≤ w'.heap.size := Nat.le_trans hS.size hA.1
    have cellp : ∀ o, p.o ≤ o → o < p.o + 5 → w'.cell? ⟨p.b, o, none⟩ = w1.cell? ⟨p.b, o, none⟩ := fun o h1 h2 => by
      refine hA.2.1 p.b o hpw (hS.tree _ hpl) (fun q hq => ?_)
      rcases List.mem_append.1 hq with hq | hq
      · exact off_hit (hoff q hq) rfl ⟨h1, h2⟩
      · rintro ⟨e1, _⟩
        have := hpl.lt
        rcases List.mem_append.1 hq with hq | hq
        · have := newL q hq; omega
        · have := newF q hq; omega
    have pdone : p.done w.heap.size w' := by
      refine ⟨Nat.lt_of_lt_of_le hpl.lt hs', [.int .i64 p.v.k, .int .i64 p.v.n, .string p.v.s, .slice al p.v.l.length cl, .slice af p.v.f.length cf], ?_, ?_⟩
      · intro j v hv
        match j, hv with
        | 0, hv => simp at hv; subst hv; rw [cellp _ (by omega) (by omega), hS.cell _ _ hpl (by rintro ⟨_, h⟩; omega)]; exact hcc 0 _ rfl
        | 1, hv => simp at hv; subst hv; rw [cellp _ (by omega) (by omega), hS.cell _ _ hpl (by rintro ⟨_, h⟩; omega)]; exact hcc 1 _ rfl
        | 2, hv => simp at hv; subst hv; rw [cellp _ (by omega) (by omega), hS.cell _ _ hpl (by rintro ⟨_, h⟩; omega)]; exact hcc 2 _ rfl
        | 3, hv => simp at hv; subst hv; rw [cellp _ (by omega) (by omega)]; exact hS.s3
        | 4, hv => simp at hv; subst hv; rw [cellp _ (by omega) (by omega)]; exact hS.s4
      · rw [hd]
        refine ⟨al, af, cl, cf, bl, bf, rfl, hszs, hS.ge, ⟨hS.row.1, fun h0 => ⟨hA.2.2 _ _ _ (Nat.le_trans hbel.size hS.ge.2) (.inr rfl) (hS.row.2 h0).1, (hS.row.2 h0).2⟩⟩, fun i x hx => ?_, fun i q hq => ?_⟩
        · have hi : 0 < p.v.l.length := by have := (List.getElem?_eq_some_iff.1 hx).1; omega
          obtain ⟨e, h1, _⟩ := hS.lAt i x hx
          obtain ⟨h2, c, h3, h4⟩ := hD ⟨bl, i * 5, d, x⟩ (by simp; exact .inr (.inl (List.mem_of_getElem? (by rw [plL_get, hx]; rfl))))
          exact ⟨c, e, h2, h3, h4.low (hS.lt (.inl hi))⟩
        · have hi : 0 < p.v.f.length := by have := (List.getElem?_eq_some_iff.1 hq).1; omega
          obtain ⟨e, h1, hz, hn, _⟩ := hS.fAt i q hq
          obtain ⟨h2, c, h3, h4⟩ := hD ⟨bf, i * 6 + 1, d, q.2⟩ (by simp; exact .inr (.inr (List.mem_of_getElem? (by rw [plF_get, hq]; rfl))))
          refine ⟨c, e, h2, hz, ?_, h3, h4.low (hS.lt (.inr hi))⟩
          rw [hA.2.1 bf (i * 6) (Nat.le_trans hbel.size hS.ge.2) h1 (fun q' hq' => ?_)]
          · exact hn
          · rintro ⟨e1, e2⟩
            rcases List.mem_append.1 hq' with hq' | hq'
            · have := oldlt q' hq'; have := hS.ge.2; omega
            · rcases List.mem_append.1 hq' with hq' | hq'
              · obtain ⟨k, y, hy, rfl⟩ := mem_plL hq'
                exact hS.ne (by have := (List.getElem?_eq_some_iff.1 hy).1; omega) hi e1.symm
              · obtain ⟨k, y, hy, rfl⟩ := mem_plF hq'
                simp at e2; omega
    refine hgood w' ⟨hs', fun b o hb ht hn => ?_, fun b t n hb ht hsh => hA.2.2 b t n hb ht (hS.shape b t n ht hsh)⟩ (fun q hq => ?_)
    · rw [hA.2.1 b o hb (hS.tree b ht) (fun q hq => ?_)]
      · exact hS.cell b o ht (hn p (by simp))
      · rcases List.mem_append.1 hq with hq | hq
        · exact hn q (by simp [hq])
        · rintro ⟨e1, _⟩
          have := ht.lt
          rcases List.mem_append.1 hq with hq | hq
          · have := newL q hq; omega
          · have := newF q hq; omega
    · rcases List.mem_append.1 hq with hq | hq
      · obtain ⟨h1, c, h2, h3⟩ := hD q (by simp [hq])
        exact ⟨h1, c, h2, h3.low hS.size⟩
      · rw [List.mem_singleton.1 hq]; exact pdone
end Go.Proofs.YtflcibmjblioaaaGreatDoor

/-
  Copying: the two lists of one place.
-/
namespace Go.Proofs.YtflcibmjblioaaaGreatDoor
open Go.RowKit
set_option maxRecDepth 100000

theorem Tree.setCell {w : World} {b g i : Nat} {v : Value} (h : Tree w b) : Tree (w.setCell ⟨g, i, none⟩ v) b := by
  obtain ⟨cs, t, h1, h2⟩ := h
  by_cases e : b = g
  · subst e
    exact ⟨cs.setIfInBounds i v, t, by simp [World.setCell, Array.getElem?_modify, h1], h2⟩
  · exact ⟨cs, t, (Below.heap_setCell _ _ _ _ (by simpa using e)).trans h1, h2⟩
theorem Tree.grown {w w' : World} {b : Nat} (h : Tree w b) (hg : w.grownBy w' none) : Tree w' b := by
  have hl := h.lt
  obtain ⟨cs, t, h1, h2⟩ := h
  exact ⟨cs, t, (hg.block b hl (by simp)).trans h1, h2⟩
theorem Shape.setCell {w : World} {b g i n : Nat} {t : TypeId} {v : Value} (h : Shape w b t n) : Shape (w.setCell ⟨g, i, none⟩ v) b t n := by
  obtain ⟨cs, h1, h2⟩ := h
  by_cases e : b = g
  · subst e
    exact ⟨cs.setIfInBounds i v, by simp [World.setCell, Array.getElem?_modify, h1], by simpa using h2⟩
  · exact ⟨cs, (Below.heap_setCell _ _ _ _ (by simpa using e)).trans h1, h2⟩
theorem Shape.grown {w w' : World} {b n : Nat} {t : TypeId} (h : Shape w b t n) (hg : w.grownBy w' none) : Shape w' b t n := by
  obtain ⟨cs, h1, h2⟩ := h
  exact ⟨cs, (hg.block b (Array.getElem?_eq_some_iff.1 h1).1 (by simp)).trans h1, h2⟩
theorem cell_grown {w w' : World} {b : Nat} (o : Nat) (hl : b < w.heap.size) (hg : w.grownBy w' none) : w'.cell? ⟨b, o, none⟩ = w.cell? ⟨b, o, none⟩ := World.cell?_of_block (a := ⟨b, o, none⟩) (hg.block b hl (by simp))
theorem size_setCell (w : World) (a : Addr) (v : Value) : (w.setCell a v).heap.size = w.heap.size := by simp [World.setCell]
theorem cell_setCell_ne {w : World} {b o b' o' : Nat} {v : Value} (h : b ≠ b' ∨ o ≠ o') : (w.setCell ⟨b', o', none⟩ v).cell? ⟨b, o, none⟩ = w.cell? ⟨b, o, none⟩ :=
  World.cell?_setCell_other _ _ _ _ (by intro e; cases e; rcases h with h | h <;> exact h rfl)
theorem rep_len {d : Nat} {w : World} {v : V} {c : List Value} (h : RepN d w v c) : c.length = 5 := by
  obtain ⟨e, rfl⟩ := h.inv
  obtain ⟨_, _, _, _, rfl, _⟩ := h
  rfl
theorem split_of {w0 w w1 w3 : World} {p : Pl} {d : Nat} {al0 af0 al af : Option Addr} {cl cf : Nat} (hb : Below w0.heap.size w0 w) (hp : p.todo w0 w) (h3 : ∃ u, w.cell? ⟨p.b, p.o + 3, none⟩ = some u) (h4 : ∃ u, w.cell? ⟨p.b, p.o + 4, none⟩ = some u)
    (hL : LAt d w0 p.v.l al0) (hF : FAt d w0 p.v.f af0) (c1 : Cloned 40 5 w al0 p.v.l.length al cl w1) (c2 : Cloned 74 6 (w1.setCell ⟨p.b, p.o + 3, none⟩ (.slice al p.v.l.length cl)) af0 p.v.f.length af cf w3) :
    ∃ bl bf, Split w0 w p d al af cl cf bl bf (w3.setCell ⟨p.b, p.o + 4, none⟩ (.slice af p.v.f.length cf)) := by
  obtain ⟨hpw, hpt, _⟩ := hp
  have hpl := hpt.lt
  have z1 := c1.1.size
  have z3 := c2.1.size
  rw [size_setCell] at z3
  have hbs := hb.size
  -- cells through the four steps
  have cell : ∀ b o, b < w.heap.size → (b ≠ p.b ∨ o ≠ p.o + 3) → (b ≠ p.b ∨ o ≠ p.o + 4) → (w3.setCell ⟨p.b, p.o + 4, none⟩ (.slice af p.v.f.length cf)).cell? ⟨b, o, none⟩ = w.cell? ⟨b, o, none⟩ := fun b o hl n3 n4 => by
    rw [cell_setCell_ne n4, cell_grown o (by rw [size_setCell]; omega) c2.1, cell_setCell_ne n3, cell_grown o hl c1.1]
  have cell1 : ∀ b o, b ≠ p.b → b < w1.heap.size → (w3.setCell ⟨p.b, p.o + 4, none⟩ (.slice af p.v.f.length cf)).cell? ⟨b, o, none⟩ = w1.cell? ⟨b, o, none⟩ := fun b o hn hl => by
    rw [cell_setCell_ne (.inl hn), cell_grown o (by rw [size_setCell]; omega) c2.1, cell_setCell_ne (.inl hn)]
  have s1lt : 0 < p.v.l.length → w.heap.size < w1.heap.size := fun h => by
    obtain ⟨_, ⟨cur, hc⟩, _⟩ := c1.2.2 h
    exact (Array.getElem?_eq_some_iff.1 hc).1
  have s3lt : 0 < p.v.f.length → w1.heap.size < w3.heap.size := fun h => by
    obtain ⟨_, ⟨cur, hc⟩, _⟩ := c2.2.2 h
    rw [size_setCell] at hc
    exact (Array.getElem?_eq_some_iff.1 hc).1
  refine ⟨if 0 < p.v.l.length then w.heap.size else (if 0 < p.v.f.length then w1.heap.size else w.heap.size), if 0 < p.v.f.length then w1.heap.size else w.heap.size, ?_, ?_, ?_, ?_, ?_, ?_, ?_, ?_, ?_, ?_, ?_, ?_, ?_⟩
  · rw [size_setCell]; omega
  · have b1 : Below w0.heap.size w0 w1 := hb.grown c1.1 hbs (by simp)
    have b2 := b1.setCell (p := ⟨p.b, p.o + 3, none⟩) hpw (.slice al p.v.l.length cl)
    have b3 := b2.grown c2.1 (by rw [size_setCell]; omega) (by simp)
    exact b3.setCell (p := ⟨p.b, p.o + 4, none⟩) hpw _
  · intro b o ht hh
    refine cell b o ht.lt ?_ ?_
    · by_cases e : b = p.b
      · exact .inr (fun e2 => hh ⟨e, .inl e2⟩)
      · exact .inl e
    · by_cases e : b = p.b
      · exact .inr (fun e2 => hh ⟨e, .inr e2⟩)
      · exact .inl e
  · exact fun b ht => (((ht.grown c1.1).setCell).grown c2.1).setCell
  · obtain ⟨u, hu⟩ := h3
    rw [cell_setCell_ne (.inr (by omega)), cell_grown _ (by rw [size_setCell]; omega) c2.1]
    exact World.cell?_setCell_same _ _ _ ((cell_grown _ hpl c1.1).trans hu)
  · obtain ⟨u, hu⟩ := h4
    refine World.cell?_setCell_same _ _ _ (u := u) ?_
    rw [cell_grown _ (by rw [size_setCell]; omega) c2.1, cell_setCell_ne (.inr (by omega)), cell_grown _ hpl c1.1, hu]
  · constructor
    · split
      · omega
      · split <;> omega
    · split <;> omega
  · exact fun b t n _ hs => ((((hs.grown c1.1).setCell).grown c2.1).setCell)
  · refine ⟨c2.2.1.1, fun h0 => ?_⟩
    have := c2.2.1.2 h0
    rw [size_setCell] at this
    rw [if_pos h0]
    exact ⟨this.1.setCell, this.2⟩
  · intro h
    rw [size_setCell]
    rcases h with h | h
    · have := s1lt h
      rw [if_pos h]
      split
      · have := s3lt ‹_›; omega
      · omega
    · have := s3lt h
      rw [if_pos h]
      split
      · have := s1lt ‹_›; omega
      · omega
  · intro h1 h2
    have := s1lt h1
    rw [if_pos h1, if_pos h2]; omega
  · intro i x hx
    have hi := (List.getElem?_eq_some_iff.1 hx).1
    have h0 : 0 < p.v.l.length := by omega
    obtain ⟨e, ⟨cur, hc⟩, hcells⟩ := c1.2.2 h0
    obtain ⟨b, off, c, ea, hbl, hcc, hr⟩ := hL i x hx
    have hlt := s1lt h0
    have hn : w.heap.size ≠ p.b := by omega
    rw [if_pos h0]
    have t1 : Tree w1 w.heap.size := ⟨cur, _, hc, .inl rfl⟩
    refine ⟨e, ((t1.setCell).grown c2.1).setCell, c, fun j v hv => ?_, hr⟩
    have hj : j < 5 := by have := (List.getElem?_eq_some_iff.1 hv).1; rw [rep_len hr] at this; exact this
    rw [cell1 _ _ hn hlt, hcells b off (i * 5 + j) ea (by omega), hb.cell (p := ⟨b, off + (i * 5 + j), none⟩) hbl, ← Nat.add_assoc]
    exact hcc j v hv
  · intro i q hq
    have hi := (List.getElem?_eq_some_iff.1 hq).1
    have h0 : 0 < p.v.f.length := by omega
    obtain ⟨e, ⟨cur, hc⟩, hcells⟩ := c2.2.2 h0
    rw [size_setCell] at e hc hcells
    obtain ⟨b, off, c, ea, hbl, hz, hn, hcc, hr⟩ := hF i q hq
    have hlt := s3lt h0
    have hne : w1.heap.size ≠ p.b := by omega
    rw [if_pos h0]
    have t1 : Tree w3 w1.heap.size := ⟨cur, _, hc, .inr rfl⟩
    have rd : ∀ j, j < 6 → (w3.setCell ⟨p.b, p.o + 4, none⟩ (.slice af p.v.f.length cf)).cell? ⟨w1.heap.size, i * 6 + j, none⟩ = w0.cell? ⟨b, off + (i * 6 + j), none⟩ := fun j hj => by
      rw [cell_setCell_ne (.inl hne), hcells b off (i * 6 + j) ea (by omega), cell_setCell_ne (.inl (by omega)), cell_grown _ (by omega) c1.1, hb.cell (p := ⟨b, off + (i * 6 + j), none⟩) hbl]
    refine ⟨e, t1.setCell, hz, ?_, c, fun j v hv => ?_, hr⟩
    · have := rd 0 (by omega)
      rw [Nat.add_zero] at this
      exact this.trans hn
    · have hj : j < 5 := by have := (List.getElem?_eq_some_iff.1 hv).1; rw [rep_len hr] at this; exact this
      have := rd (1 + j) (by omega)
      rw [← Nat.add_assoc] at this
      rw [this, ← Nat.add_assoc, ← Nat.add_assoc]
      exact hcc j v hv
/-- What cloning asks of a list of values, of fields. -/
theorem cells_l {d : Nat} {w0 w : World} {l : List V} {al : Option Addr} (h : LAt d w0 l al) (hb : Below w0.heap.size w0 w) : 0 < l.length → ∃ b off, al = some ⟨b, off, none⟩ ∧ ∀ j, j < l.length * 5 → ∃ u, w.cell? ⟨b, off + j, none⟩ = some u ∧ u.oneCell' = true := by
  intro h0
  obtain ⟨b, off, _, ea, hbl, _, _⟩ := h 0 l[0] (List.getElem?_eq_getElem h0)
  refine ⟨b, off, ea, fun j hj => ?_⟩
  obtain ⟨b', off', c, ea', _, hc, hr⟩ := h (j / 5) (l[j / 5]'(by omega)) (List.getElem?_eq_getElem (by omega))
  rw [ea] at ea'; cases ea'
  obtain ⟨e, rfl⟩ := hr.inv
  obtain ⟨_, _, _, _, rfl, _⟩ := hr
  have e5 : off + j = off + j / 5 * 5 + j % 5 := by omega
  rw [hb.cell (p := ⟨b, off + j, none⟩) hbl, e5]
  rcases (by omega : j % 5 = 0 ∨ j % 5 = 1 ∨ j % 5 = 2 ∨ j % 5 = 3 ∨ j % 5 = 4) with h | h | h | h | h <;> rw [h]
  · exact ⟨_, hc 0 _ rfl, rfl⟩
  · exact ⟨_, hc 1 _ rfl, rfl⟩
  · exact ⟨_, hc 2 _ rfl, rfl⟩
  · exact ⟨_, hc 3 _ rfl, rfl⟩
  · exact ⟨_, hc 4 _ rfl, rfl⟩
theorem cells_f {d : Nat} {w0 w : World} {l : List (ByteArray × V)} {af : Option Addr} (h : FAt d w0 l af) (hb : Below w0.heap.size w0 w) : 0 < l.length → ∃ b off, af = some ⟨b, off, none⟩ ∧ ∀ j, j < l.length * 6 → ∃ u, w.cell? ⟨b, off + j, none⟩ = some u ∧ u.oneCell' = true := by
  intro h0
  obtain ⟨b, off, _, ea, hbl, _⟩ := h 0 l[0] (List.getElem?_eq_getElem h0)
  refine ⟨b, off, ea, fun j hj => ?_⟩
  obtain ⟨b', off', c, ea', _, _, hn, hc, hr⟩ := h (j / 6) (l[j / 6]'(by omega)) (List.getElem?_eq_getElem (by omega))
  rw [ea] at ea'; cases ea'
  obtain ⟨e, rfl⟩ := hr.inv
  obtain ⟨_, _, _, _, rfl, _⟩ := hr
  have e5 : off + j = off + j / 6 * 6 + j % 6 := by omega
  rw [hb.cell (p := ⟨b, off + j, none⟩) hbl, e5]
  rcases (by omega : j % 6 = 0 ∨ j % 6 = 1 ∨ j % 6 = 2 ∨ j % 6 = 3 ∨ j % 6 = 4 ∨ j % 6 = 5) with h | h | h | h | h | h <;> rw [h]
  · exact ⟨_, hn, rfl⟩
  · exact ⟨_, hc 0 _ rfl, rfl⟩
  · exact ⟨_, hc 1 _ rfl, rfl⟩
  · exact ⟨_, hc 2 _ rfl, rfl⟩
  · exact ⟨_, hc 3 _ rfl, rfl⟩
  · exact ⟨_, hc 4 _ rfl, rfl⟩
end Go.Proofs.YtflcibmjblioaaaGreatDoor
