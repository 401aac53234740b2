/-
  Joined: Yt, Ys, Yu.
-/
import Derived.Test.YtflcibmjblioaaaGreatDoorYr
import Derived.Test.YtflcibmjblioaaaGreatDoorVe3
import Derived.Deep.RegionHeld3

/-
  The program's reader: a dictionary that is being read.
-/
namespace Go.Proofs.YtflcibmjblioaaaGreatDoor
open Go.RowKit
set_option maxRecDepth 100000

def wEnd2 : ByteArray := ⟨#[62, 62]⟩
/-- What reading a dictionary makes: the fields, an error, where it ends. -/
def rdD (f : Nat → Rd) (s : ByteArray) : Nat → List (ByteArray × V) → Nat → List (ByteArray × V) × Int × Nat
  | 0, _, j => ([], 2, j)
  | n + 1, acc, j =>
    if (endsR s wEnd2 j).1 ≠ 0 then ([], (endsR s wEnd2 j).1, j)
    else if (endsR s wEnd2 j).2.1 then (acc, 0, (endsR s wEnd2 j).2.2)
    else if (rdFd f s (endsR s wEnd2 j).2.2).2.1 ≠ 0 then ([], (rdFd f s (endsR s wEnd2 j).2.2).2.1, j)
    else if (getF (rdFd f s (endsR s wEnd2 j).2.2).1.1 acc).isSome then ([], 3, j)
    else if 300 < acc.length + 1 then ([], 2, j)
    else rdD f s n (rsetF (rdFd f s (endsR s wEnd2 j).2.2).1.1 (rdFd f s (endsR s wEnd2 j).2.2).1.2 acc false) (rdFd f s (endsR s wEnd2 j).2.2).2.2
theorem rdD_step {f : Nat → Rd} {s : ByteArray} {n : Nat} {acc : List (ByteArray × V)} {j : Nat} {x : Int} {y : Bool} {z : Nat} (he : endsR s wEnd2 j = (x, y, z)) :
    rdD f s (n + 1) acc j = if x ≠ 0 then ([], x, j) else if y then (acc, 0, z) else if (rdFd f s z).2.1 ≠ 0 then ([], (rdFd f s z).2.1, j) else if (getF (rdFd f s z).1.1 acc).isSome then ([], 3, j) else if 300 < acc.length + 1 then ([], 2, j) else rdD f s n (rsetF (rdFd f s z).1.1 (rdFd f s z).1.2 acc false) (rdFd f s z).2.2 := by rw [rdD, he]
/-- A name that was read may be one. -/
theorem rdFd_name {f : Nat → Rd} {s : ByteArray} {k : Nat} (h : (rdFd f s k).2.1 = 0) : nmOk (rdFd f s k).1.1 = true := by
  unfold rdFd at h ⊢
  split
  · rename_i h47
    rw [if_pos h47] at h
    cases hr : nameR (wordP s (k + 1)).data.toList with
    | none => rw [hr] at h; exact absurd (show (4 : Int) = 0 from h) (by decide)
    | some b =>
      simp only
      unfold nameR at hr
      cases hl : nameL (wordP s (k + 1)).data.toList with
      | none => rw [hl] at hr; cases hr
      | some c =>
        rw [hl] at hr
        simp only [Option.bind_some] at hr
        split at hr
        · rename_i hm; cases hr; exact hm
        · cases hr
  · rename_i h47
    rw [if_neg h47] at h; exact absurd (show (4 : Int) = 0 from h) (by decide)
theorem nmOk_size {s : ByteArray} (h : nmOk s = true) : s.size ≤ 200 := by
  unfold nmOk at h; simp at h; exact h.1.2
theorem getF_isSome {name : ByteArray} : ∀ {l : List (ByteArray × V)}, (getF name l).isSome = true ↔ ∃ (i : Nat) (q : ByteArray × V), l[i]? = some q ∧ q.1 = name
  | [] => by simp [getF]
  | q :: l => by
    by_cases h : q.1 = name
    · have e : getF name (q :: l) = some q.2 := by
        refine getF_some (i := 0) (q := q) rfl (by rw [h]; simp) (fun j s hj => by omega)
      rw [e]
      exact ⟨fun _ => ⟨0, q, rfl, h⟩, fun _ => rfl⟩
    · have e : getF name (q :: l) = getF name l := by
        have hn : (q.1.toList == name.toList) = false := word_ne h
        rw [getF, hn]; rfl
      rw [e, getF_isSome (l := l)]
      constructor
      · rintro ⟨i, p, hi, hp⟩; exact ⟨i + 1, p, by simpa using hi, hp⟩
      · rintro ⟨i, p, hi, hp⟩
        cases i with
        | zero => simp at hi; subst hi; exact absurd hp h
        | succ i => exact ⟨i, p, by simpa using hi, hp⟩
theorem FoundAt.getF {name : ByteArray} {l : List (ByteArray × V)} {t : Nat} {b : Bool} (h : FoundAt name l t b) (hp : l.Pairwise fun p q => Lt p.1 q.1) : (getF name l).isSome = b := by
  cases hb : b
  · cases hg : (Go.Proofs.YtflcibmjblioaaaGreatDoor.getF name l).isSome
    · rfl
    · obtain ⟨i, q, hi, hq⟩ := getF_isSome.1 hg
      have h1 : ¬ i < t := fun hl => by have := h.low i q hl hi; rw [hq] at this; exact this.ne rfl
      by_cases h2 : i = t
      · subst h2
        have := h.is.2 ⟨q, hi, hq⟩
        rw [hb] at this; cases this
      · have hlt : t < i := by omega
        have hil := (List.getElem?_eq_some_iff.1 hi).1
        have h3 := rises_at hp hlt (List.getElem?_eq_getElem (show t < l.length by omega)) hi
        rw [hq] at h3
        exact absurd h3 (h.high t _ (Nat.le_refl _) (List.getElem?_eq_getElem (show t < l.length by omega)))
  · obtain ⟨q, hq, hn⟩ := h.is.1 hb
    exact getF_isSome.2 ⟨t, q, hq, hn⟩
/-- Where a name is not there, it is laid where it was looked for. -/
theorem FoundAt.rset {name : ByteArray} {l : List (ByteArray × V)} {t : Nat} (h : FoundAt name l t false) (hp : l.Pairwise fun p q => Lt p.1 q.1) (x : V) : rsetF name x l false = l.take t ++ (name, x) :: l.drop t := by
  have hno : ∀ q ∈ l, q.1 ≠ name := fun q hq e => by
    obtain ⟨i, hi⟩ := List.getElem?_of_mem hq
    have := getF_isSome.2 ⟨i, q, hi, e⟩
    rw [h.getF hp] at this; cases this
  refine rset_new (name := name) (x := x) l t hp hno h.le (fun i q hi hq => (h.low i q hi hq).not) (fun q hq => ?_)
  rcases lt_tri name q.1 with g | g | g
  · exact g
  · exact absurd g.symm (hno q (List.mem_of_getElem? hq))
  · exact absurd g (h.high t q (Nat.le_refl _) hq)
theorem FoundAt.rises {name : ByteArray} {l : List (ByteArray × V)} {t : Nat} (h : FoundAt name l t false) (hp : l.Pairwise fun p q => Lt p.1 q.1) (x : V) : (l.take t ++ (name, x) :: l.drop t).Pairwise fun p q => Lt p.1 q.1 := by
  have hno : ∀ q ∈ l, q.1 ≠ name := fun q hq e => by
    obtain ⟨i, hi⟩ := List.getElem?_of_mem hq
    have := getF_isSome.2 ⟨i, q, hi, e⟩
    rw [h.getF hp] at this; cases this
  have hp2 := hp
  rw [← List.take_append_drop t l, List.pairwise_append] at hp2
  obtain ⟨h1, h2, h3⟩ := hp2
  have low : ∀ q ∈ l.take t, Lt q.1 name := fun q hq => by
    obtain ⟨i, hi⟩ := List.getElem?_of_mem hq
    rw [List.getElem?_take] at hi
    split at hi
    · exact h.low i q (by assumption) hi
    · cases hi
  have high : ∀ q ∈ l.drop t, Lt name q.1 := fun q hq => by
    obtain ⟨i, hi⟩ := List.getElem?_of_mem hq
    rw [List.getElem?_drop] at hi
    rcases lt_tri name q.1 with g | g | g
    · exact g
    · exact absurd g.symm (hno q (List.mem_of_getElem? hi))
    · exact absurd g (h.high _ q (by omega) hi)
  rw [List.pairwise_append]
  refine ⟨h1, List.pairwise_cons.2 ⟨fun q hq => high q hq, h2⟩, fun p hp' q hq => ?_⟩
  rcases List.mem_cons.1 hq with rfl | hq
  · exact low p hp'
  · exact h3 p hp' q hq
/-- A dictionary that is being read: the answer's block, the dictionary's block, its row, the fields. -/
structure Dicted (P : Nat) (w wr : World) (s : ByteArray) (j d : Nat) (t : Value) (O : List FC) : Prop where
  mov : Moved P w wr s j
  lt : P < w.heap.size
  box : At wr w.heap.size 40 (vc 0 0 ⟨#[]⟩)
  vbox : At wr (w.heap.size + 1) 40 #[.int .i64 6, .int .i64 0, .string ⟨#[]⟩, .slice none 0 0, t]
  own : wr.ownsRow (w.heap.size + 2) 74 6 t O.length (flatO O)
  reps : ∀ o ∈ O, o.1.1.size ≤ 200 ∧ RepIn (Room (w.heap.size + 2) wr t) d wr o.1.2 o.2
theorem Dicted.moved {P : Nat} {w a b : World} {s : ByteArray} {j i d : Nat} {t : Value} {O : List FC} (h : Dicted P w a s j d t O) (m : Moved P a b s i) : Dicted P w b s i d t O := by
  have hP := h.lt
  refine ⟨h.mov.trans m, hP, m.keep.at h.box (by omega), m.keep.at h.vbox (by omega), ?_, fun o ho => ⟨(h.reps o ho).1, ?_⟩⟩
  · refine World.ownsRow.kept h.own (row := some P) ⟨m.keep.os, m.keep.tape, m.keep.output, m.keep.size, fun k hk hne => m.keep.block k hk (fun e => hne (by rw [e]))⟩ ?_
    cases hv : t.ownBlock with
    | none => exact .inl rfl
    | some g => exact .inr (fun e => by cases e; have := (h.own.lt P hv).1; omega)
  · refine ((h.reps o ho).2.agree m.keep.size fun b hb => m.keep.block b hb.2.1 (by have := hb.1; omega)).mono fun b hb => ⟨hb.1, Nat.lt_of_lt_of_le hb.2.1 m.keep.size, hb.2.2⟩
theorem Dicted.below {P : Nat} {w a b : World} {s : ByteArray} {j d : Nat} {t : Value} {O : List FC} (h : Dicted P w a s j d t O) (hb : Below a.heap.size a b) : Dicted P w b s j d t O :=
  h.moved ⟨.of hb, At.later h.mov.at_ hb⟩
theorem Dicted.env {m : Int} {P : Nat} {w a : World} {s : ByteArray} {j d : Nat} {t : Value} {O : List FC} (h : Dicted P w a s j d t O) (hE : Env m P w) : Env m P a := hE.moved h.mov h.lt
theorem Dicted.size {P : Nat} {w a : World} {s : ByteArray} {j d : Nat} {t : Value} {O : List FC} (h : Dicted P w a s j d t O) : w.heap.size + 2 ≤ a.heap.size := At.lt h.vbox
theorem Dicted.ok {P : Nat} {w a : World} {s : ByteArray} {j d : Nat} {t : Value} {O : List FC} (h : Dicted P w a s j d t O) : ∀ o ∈ O, o.ok d a :=
  fun o ho => ⟨by have := (h.reps o ho).1; unfold maxLen; omega, (h.reps o ho).2.now⟩
theorem Dicted.slice {P : Nat} {w a : World} {s : ByteArray} {j d : Nat} {t : Value} {O : List FC} (h : Dicted P w a s j d t O) : ∃ af cf, t = .slice af O.length cf ∧ FAt d a (O.map (·.1)) af :=
  own_fields h.own h.ok (Below.refl _ _)
theorem Dicted.cells {P : Nat} {w a : World} {s : ByteArray} {j d : Nat} {t : Value} {O : List FC} (h : Dicted P w a s j d t O) :
    (a.cell? ⟨w.heap.size + 1, 0, none⟩ = some (.int .i64 6) ∧ a.cell? ⟨w.heap.size + 1, 1, none⟩ = some (.int .i64 0) ∧ a.cell? ⟨w.heap.size + 1, 2, none⟩ = some (.string ⟨#[]⟩) ∧ a.cell? ⟨w.heap.size + 1, 3, none⟩ = some (.slice none 0 0) ∧ a.cell? ⟨w.heap.size + 1, 4, none⟩ = some t) ∧ a.frozen? ⟨w.heap.size + 1, 4, none⟩ = false :=
  ⟨⟨At.cell h.vbox 0, At.cell h.vbox 1, At.cell h.vbox 2, At.cell h.vbox 3, At.cell h.vbox 4⟩, At.free h.vbox 4⟩
/-- One more field: the row grew, the dictionary's block holds the row anew. -/
theorem Dicted.grow {P : Nat} {w b w2 : World} {s : ByteArray} {i d : Nat} {t t' : Value} {O O' : List FC} {o : FC} (h : Dicted P w b s i d t O)
    (ho : o.1.1.size ≤ 200 ∧ RepIn (Room (w.heap.size + 2) b t) d b o.1.2 o.2) (hO : ∀ p ∈ O', p ∈ O ∨ p = o) (hown : w2.ownsRow (w.heap.size + 2) 74 6 t' O'.length (flatO O')) (hg : b.grownBy w2 t.ownBlock)
    (hat : t'.ownBlock = t.ownBlock ∨ t'.ownBlock = some b.heap.size) : Dicted P w (w2.setCell ⟨w.heap.size + 1, 4, none⟩ t') s i d t' O' := by
  have hP := h.lt
  have hbs := h.size
  have hsz := hg.size
  have same : ∀ k, k < b.heap.size → some k ≠ t.ownBlock → w2.heap[k]? = b.heap[k]? := fun k hk hne => hg.block k hk hne
  have low : ∀ k, k < w.heap.size + 2 → some k ≠ t.ownBlock := fun k hk e => by
    have := (h.own.lt k e.symm).1; omega
  have hW : Moved P w w2 s i := by
    refine ⟨⟨hg.os.trans h.mov.keep.os, hg.tape.trans h.mov.keep.tape, hg.output.trans h.mov.keep.output, by omega, fun k hk hne => ?_⟩, ?_⟩
    · rw [same k (by omega) (low k (by omega))]; exact h.mov.keep.block k hk hne
    · exact (same P (by omega) (low P (by omega))).trans h.mov.at_
  have sz : (w2.setCell ⟨w.heap.size + 1, 4, none⟩ t').heap.size = w2.heap.size := by simp [World.setCell]
  have oth : ∀ k, k ≠ w.heap.size + 1 → (w2.setCell ⟨w.heap.size + 1, 4, none⟩ t').heap[k]? = w2.heap[k]? := fun k hk => Below.heap_setCell _ _ _ _ hk
  refine ⟨hW.setNew (by omega) hP _ _, hP, ?_, ?_, ?_, ?_⟩
  · exact (oth _ (by omega)).trans ((same _ (by omega) (low _ (by omega))).trans h.box)
  · have hv : At w2 (w.heap.size + 1) 40 #[.int .i64 6, .int .i64 0, .string ⟨#[]⟩, .slice none 0 0, t] := (same _ (by omega) (low _ (by omega))).trans h.vbox
    exact heap_setCell_same w2 _ 4 _ _ t' hv
  · refine World.ownsRow.kept hown (row := some (w.heap.size + 1)) ⟨rfl, rfl, rfl, by rw [sz]; exact Nat.le_refl _, fun k hk hne => oth k (fun e => hne (by rw [e]))⟩ ?_
    cases hv : t'.ownBlock with
    | none => exact .inl rfl
    | some g => exact .inr (fun e => by cases e; have := (hown.lt _ hv).1; omega)
  · intro p hp
    have new : ∀ k, k < b.heap.size → some k ≠ t.ownBlock → some k ≠ t'.ownBlock := fun k hk hne => by
      rcases hat with e | e
      · rw [e]; exact hne
      · rw [e]; intro e'; injection e' with e'; omega
    have hq : p.1.1.size ≤ 200 ∧ RepIn (Room (w.heap.size + 2) b t) d b p.1.2 p.2 := by
      rcases hO p hp with h1 | rfl
      · exact h.reps p h1
      · exact ho
    refine ⟨hq.1, (hq.2.agree (by rw [sz]; omega) fun k hk => ?_).mono fun k hk => ⟨hk.1, by rw [sz]; have := hk.2.1; omega, new k hk.2.1 hk.2.2⟩⟩
    rw [oth k (by have := hk.1; omega)]; exact same k hk.2.1 hk.2.2
/-- A value that was read into new blocks. -/
theorem Dicted.fresh {P : Nat} {w a b b3 : World} {s : ByteArray} {j d : Nat} {t : Value} {O : List FC} {x : V} {c : List Value} (h : Dicted P w a s j d t O) (hb3 : Below b.heap.size b b3) (hx : RepIn (fun g => a.heap.size ≤ g ∧ g < b.heap.size) d b x c) :
    RepIn (Room (w.heap.size + 2) b3 t) d b3 x c := by
  have has := h.size
  refine (hx.agree hb3.size fun k hk => hb3.block k hk.2).mono fun k hk => ⟨by have := hk.1; omega, Nat.lt_of_lt_of_le hk.2 hb3.size, fun e => ?_⟩
  have := (h.own.lt k e.symm).2
  have := hk.1
  omega
theorem repIn_dict {S T : Nat → Prop} {d base : Nat} {w : World} {t : Value} {O : List FC} (h : w.ownsRow base 74 6 t O.length (flatO O)) (hk : ∀ o ∈ O, o.1.1.size ≤ 200 ∧ RepIn S d w o.1.2 o.2) (hl : O.length ≤ 1000)
    (hS : ∀ b, S b → T b) (hT : ∀ g, t.ownBlock = some g → T g) : RepIn T (d + 1) w ⟨6, 0, eB, [], O.map (·.1)⟩ [.int .i64 6, .int .i64 0, .string eB, .slice none 0 0, t] := by
  intro w' hs hb
  have hok : ∀ o ∈ O, o.ok d w := fun o ho => ⟨by have := (hk o ho).1; unfold maxLen; omega, (hk o ho).2.now⟩
  rcases h.2 with ⟨rfl, h0⟩ | ⟨g, cap, cur, rfl, _, hg, _⟩
  · have : O = [] := List.eq_nil_of_length_eq_zero h0
    subst this
    exact ⟨none, none, 0, 0, rfl, ⟨Nat.zero_le _, by simp [maxLen], by simp [maxLen]⟩, fun i x h => by simp at h, fun i q h => by simp at h⟩
  · refine ⟨none, some ⟨g, 0, none⟩, 0, cap, by simp, ⟨Nat.zero_le _, by simp [maxLen], by simp [maxLen]; omega⟩, fun i x h => by simp at h, fun i q hq => ?_⟩
    have hq' : (O.map (·.1))[i]? = some q := hq
    rw [List.getElem?_map, Option.map_eq_some_iff] at hq'
    obtain ⟨o, ho, rfl⟩ := hq'
    have hi := (List.getElem?_eq_some_iff.1 ho).1
    have hgb := hb g (hT g rfl)
    have ok := hok o (List.mem_of_getElem? ho)
    have cell : ∀ j, j < 6 → w'.cell? ⟨g, i * 6 + j, none⟩ = o.cells[j]? := fun j hj => by
      rw [cell_block hgb, h.cellAt _ (by omega), flatO_get hok ho j hj]
    refine ⟨g, 0, o.2, rfl, Nat.lt_of_lt_of_le (Array.getElem?_eq_some_iff.1 hg).1 hs, ok.1, ?_, fun j c hc => ?_, (hk o (List.mem_of_getElem? ho)).2 w' hs fun b hb' => hb b (hS b hb')⟩
    · rw [Nat.zero_add]; exact cell 0 (by omega)
    · have hj := (List.getElem?_eq_some_iff.1 hc).1
      rw [rep_len ok.2] at hj
      have := cell (1 + j) (by omega)
      rw [Nat.zero_add, Nat.add_assoc, this, Nat.add_comm 1 j]
      simpa [FC.cells] using hc
theorem Dicted.rep {P : Nat} {w a : World} {s : ByteArray} {j d : Nat} {t : Value} {O : List FC} (h : Dicted P w a s j d t O) (hl : O.length ≤ 1000) :
    RepIn (fun b => w.heap.size + 2 ≤ b ∧ b < a.heap.size) (d + 1) a ⟨6, 0, eB, [], O.map (·.1)⟩ [.int .i64 6, .int .i64 0, .string eB, .slice none 0 0, t] :=
  repIn_dict h.own h.reps hl (fun _ hb => ⟨hb.1, hb.2.1⟩) (fun g hg => h.own.lt g hg)
/-- The answer's block is written. -/
theorem Dicted.fill {P : Nat} {w a : World} {s : ByteArray} {j d : Nat} {t : Value} {O : List FC} (h : Dicted P w a s j d t O) (hl : O.length ≤ 1000) (v0 v1 v2 v3 v4 : Value) {wf : World} (hf : wf = set5 a w.heap.size v0 v1 v2 v3 v4) :
    Moved P w wf s j ∧ At wf w.heap.size 40 #[v0, v1, v2, v3, v4] ∧ RepIn (fun b => w.heap.size ≤ b ∧ b < wf.heap.size) (d + 1) wf ⟨6, 0, eB, [], O.map (·.1)⟩ [.int .i64 6, .int .i64 0, .string eB, .slice none 0 0, t] := by
  subst hf
  refine ⟨h.mov.set5 (Nat.le_refl _) h.lt _ _ _ _ _, At.five h.box _ _ _ _ _, ?_⟩
  refine ((h.rep hl).agree (by rw [set5_size]; exact Nat.le_refl _) fun b hb => set5_other _ _ _ _ _ _ _ (by have := hb.1; omega)).mono fun b hb => ⟨by have := hb.1; omega, by rw [set5_size]; exact hb.2⟩
theorem flatO_takeL : ∀ {O : List FC} (i : Nat), (∀ o ∈ O, o.cells.length = 6) → (flatO O).take (i * 6) = flatO (O.take i)
  | [], i, _ => by simp [flatO]
  | o :: O, 0, _ => by simp [flatO]
  | o :: O, i + 1, h => by
    have h1 := h o (by simp)
    have ih := flatO_takeL (O := O) i (fun p hp => h p (by simp [hp]))
    rw [List.take_succ_cons, show flatO (o :: O) = o.cells ++ flatO O from by simp [flatO], show flatO (o :: O.take i) = o.cells ++ flatO (O.take i) from by simp [flatO], ← ih, List.take_append, h1, List.take_of_length_le (by omega), show (i + 1) * 6 - 6 = i * 6 by omega]
theorem flatO_dropL : ∀ {O : List FC} (i : Nat), (∀ o ∈ O, o.cells.length = 6) → (flatO O).drop (i * 6) = flatO (O.drop i)
  | [], i, _ => by simp [flatO]
  | o :: O, 0, _ => by simp [flatO]
  | o :: O, i + 1, h => by
    have h1 := h o (by simp)
    have ih := flatO_dropL (O := O) i (fun p hp => h p (by simp [hp]))
    rw [List.drop_succ_cons, show flatO (o :: O) = o.cells ++ flatO O from by simp [flatO], ← ih, List.drop_append, h1, List.drop_eq_nil_of_le (by omega), List.nil_append, show (i + 1) * 6 - 6 = i * 6 by omega]
end Go.Proofs.YtflcibmjblioaaaGreatDoor

/-
  The program's reader: the search among fields.
-/
namespace Go.Proofs.YtflcibmjblioaaaGreatDoor
open Go.RowKit
set_option maxRecDepth 100000
theorem cell_keep {W W' : World} (hb : Below W.heap.size W W') {b o : Nat} (h : b < W.heap.size) {u : Value} (g : W.cell? ⟨b, o, none⟩ = some u) : W'.cell? ⟨b, o, none⟩ = some u := (hb.cell (p := ⟨b, o, none⟩) h).trans g
theorem twelve {W W' : World} {b c o0 o1 o2 o3 o4 o5 p0 p1 p2 p3 p4 p5 : Nat} {x0 x1 x2 x3 x4 x5 y0 y1 y2 y3 y4 y5 : Value} (h : (W.cell? ⟨b, o0, none⟩ = some x0 ∧ W.cell? ⟨b, o1, none⟩ = some x1 ∧ W.cell? ⟨b, o2, none⟩ = some x2 ∧ W.cell? ⟨b, o3, none⟩ = some x3 ∧ W.cell? ⟨b, o4, none⟩ = some x4 ∧ W.cell? ⟨b, o5, none⟩ = some x5) ∧ (W.cell? ⟨c, p0, none⟩ = some y0 ∧ W.cell? ⟨c, p1, none⟩ = some y1 ∧ W.cell? ⟨c, p2, none⟩ = some y2 ∧ W.cell? ⟨c, p3, none⟩ = some y3 ∧ W.cell? ⟨c, p4, none⟩ = some y4 ∧ W.cell? ⟨c, p5, none⟩ = some y5))
    (hb : Below W.heap.size W W') (h1 : b < W.heap.size) (h2 : c < W.heap.size) : (W'.cell? ⟨b, o0, none⟩ = some x0 ∧ W'.cell? ⟨b, o1, none⟩ = some x1 ∧ W'.cell? ⟨b, o2, none⟩ = some x2 ∧ W'.cell? ⟨b, o3, none⟩ = some x3 ∧ W'.cell? ⟨b, o4, none⟩ = some x4 ∧ W'.cell? ⟨b, o5, none⟩ = some x5) ∧ (W'.cell? ⟨c, p0, none⟩ = some y0 ∧ W'.cell? ⟨c, p1, none⟩ = some y1 ∧ W'.cell? ⟨c, p2, none⟩ = some y2 ∧ W'.cell? ⟨c, p3, none⟩ = some y3 ∧ W'.cell? ⟨c, p4, none⟩ = some y4 ∧ W'.cell? ⟨c, p5, none⟩ = some y5) := by
  obtain ⟨⟨a0, a1, a2, a3, a4, a5⟩, b0, b1, b2, b3, b4, b5⟩ := h
  exact ⟨⟨cell_keep hb h1 a0, cell_keep hb h1 a1, cell_keep hb h1 a2, cell_keep hb h1 a3, cell_keep hb h1 a4, cell_keep hb h1 a5⟩, cell_keep hb h2 b0, cell_keep hb h2 b1, cell_keep hb h2 b2, cell_keep hb h2 b3, cell_keep hb h2 b4, cell_keep hb h2 b5⟩
set_option maxHeartbeats 4000000 in
theorem search_says {d : Nat} {w : World} (name : ByteArray) (y1 y2 y3 y4 y5 : Value) (l : List (ByteArray × V)) (al : Option Addr) (cl : Nat) (hl : l.length ≤ 1000) (hL : FAt d w l al) (hp : l.Pairwise fun p q => Lt p.1 q.1) (_h1 : ∀ u ∈ [y1, y2, y3, y4, y5], u.oneCell' = true) :
    Calls Tryz.prog 146 #[.slice al l.length cl, .agg #[.string name, y1, y2, y3, y4, y5], .func (.func 147) #[] #[]] w fun e w' => (∃ t b, e = .returned (.tuple #[.int .i64 (t : Nat), .bool b]) ∧ FoundAt name l t b) ∧ Below w.heap.size w w' := by
  have HL := hid hL
  have HP := hid hp
  clear hL hp
  go_enter Tryz.func146, Tryz.ntmps146
  go_wp2_with fail
  have hA0 : At (w.alloc (.cells #[.string name, y1, y2, y3, y4, y5] 74)) w.heap.size 74 #[.string name, y1, y2, y3, y4, y5] := At.new _ _ _ rfl
  have hB0 : Below w.heap.size w (w.alloc (.cells #[.string name, y1, y2, y3, y4, y5] 74)) := below_box _ _
  generalize w.alloc (.cells #[.string name, y1, y2, y3, y4, y5] 74) = w0 at hA0 hB0 ⊢
  have hz0 := hA0.lt
  have HA0 := hid hA0
  have HB0 := hid hB0
  clear hA0 hB0
  go_loopw [9, 10] (fun iv jv wr => ∃ i j : Nat, iv = .int .i64 i ∧ jv = .int .i64 j ∧ i ≤ j ∧ j ≤ l.length ∧ Hid (∀ (k : Nat) (q : ByteArray × V), k < i → l[k]? = some q → Lt q.1 name) ∧ Hid (∀ (k : Nat) (q : ByteArray × V), j ≤ k → l[k]? = some q → ¬ Lt q.1 name) ∧ Below w0.heap.size w0 wr) (fun iv jv _ => (intOf jv).toNat - (intOf iv).toNat)
  case atStart => exact ⟨0, l.length, rfl, rfl, Nat.zero_le _, Nat.le_refl _, hid (fun k q hk => by omega), hid (fun k q hk hq => by have := (List.getElem?_eq_some_iff.1 hq).1; omega), Below.refl _ _⟩
  case round =>
    obtain ⟨i, j, rfl, rfl, hij, hjl, HLO, HHI, hK⟩ := hrel
    have hA := HA0.out.later hK
    obtain ⟨⟨t0, t1, t2, t3, t4, t5⟩, _⟩ := six_cells hA
    by_cases hlt : i < j
    · have hlt' : (i : Int) < j := by omega
      obtain ⟨h, hh⟩ : ∃ h, h = (i + j) / 2 := ⟨_, rfl⟩
      have hhl : h < l.length := by omega
      obtain ⟨b, off, c, rfl, hbl, _, hcn, hc, hr⟩ := HL.out h l[h] (List.getElem?_eq_getElem hhl)
      have hB1 : Below w.heap.size w wr := HB0.out.trans (hK.mono (Nat.le_of_lt hz0))
      obtain ⟨k1, n1, s1, a1, l1, c1, a2, l2, c2, rfl, g0, g1, g2, g3, g4⟩ := rep_cells (hr.later hB1) (hc.later hbl hB1)
      have gn := (hB1.cell (p := ⟨b, off + h * 6, none⟩) hbl).trans hcn
      clear hr hc hcn
      have he : ((i : Int) + (j : Int)) / 2 = (h : Int) := by omega
      have HH := hid hh
      clear hh
      have HG := hid (List.getElem?_eq_getElem hhl)
      by_cases hc : Lt l[h].1 name
      · have hneg : cmpB l[h].1 name < 0 := cmpB_neg.2 hc
        have HC := hid hc
        clear hc
        have HK := hid hK
        clear hK hA hB1
        go_wp2
        go_region_with (go_at_call 147; refine (byName_says _ _ _ _ _ _ _ _ _ _ _ _ _).mono ?_; rintro e w1 ⟨rfl, hb1⟩)
        all_goals
          have hb2 := below_undrew hb1
          go_wp2
          go_roundw
          case rel =>
            refine ⟨h + 1, j, by go_num, rfl, by have := HH.out; omega, hjl, hid (fun k q hk hq => ?_), HHI, HK.out.trans (hb2.mono HK.out.size)⟩
            by_cases hkh : k = h
            · rw [hkh, HG.out] at hq; cases hq; exact HC.out
            · exact (rises_at HP.out (by omega) hq HG.out).trans HC.out
          case measure => have := HH.out; simp [intOf]; omega
      · have hneg : ¬ cmpB l[h].1 name < 0 := fun q => hc (cmpB_neg.1 q)
        have HC := hid hc
        clear hc
        have HK := hid hK
        clear hK hA hB1
        go_wp2
        go_region_with (go_at_call 147; refine (byName_says _ _ _ _ _ _ _ _ _ _ _ _ _).mono ?_; rintro e w1 ⟨rfl, hb1⟩)
        all_goals
          have hb2 := below_undrew hb1
          go_wp2
          go_roundw
          case rel =>
            refine ⟨i, h, rfl, by go_num, by have := HH.out; omega, by omega, HLO, hid (fun k q hk hq => ?_), HK.out.trans (hb2.mono HK.out.size)⟩
            by_cases hkh : k = h
            · rw [hkh, HG.out] at hq; cases hq; exact HC.out
            · exact fun hh => HC.out ((rises_at HP.out (by omega) HG.out hq).trans hh)
          case measure => have := HH.out; simp [intOf]; omega
    · have hij2 : i = j := by omega
      subst hij2
      have hlt' : ¬ (i : Int) < i := by omega
      have hB1 : Below w.heap.size w wr := HB0.out.trans (hK.mono (Nat.le_of_lt hz0))
      by_cases hil : i < l.length
      · have hil' : (i : Int) < l.length := by omega
        have hd : decide ((i : Int) < (l.length : Int)) = true := decide_eq_true hil'
        obtain ⟨b, off, c, rfl, hbl, _, hcn, hc, hr⟩ := HL.out i l[i] (List.getElem?_eq_getElem hil)
        obtain ⟨k1, n1, s1, a1, l1, c1, a2, l2, c2, rfl, g0, g1, g2, g3, g4⟩ := rep_cells (hr.later hB1) (hc.later hbl hB1)
        have gn := (hB1.cell (p := ⟨b, off + i * 6, none⟩) hbl).trans hcn
        clear hr hc hcn
        have HG := hid (List.getElem?_eq_getElem hil)
        have HZ := hid (cmpB_zero (x := l[i].1) (y := name))
        have HK := hid (hB1)
        have HLW := hid (show w.heap.size < wr.heap.size from hA.lt)
        clear hK hA hB1
        have hby := fun (u1 u2 u3 u4 u5 v1 v2 v3 v4 v5 : Value) (w : World) => byName_says l[i].1 name u1 u2 u3 u4 u5 v1 v2 v3 v4 v5 w
        generalize cmpB l[i].1 name = z at HZ hby
        have HS0 := hid (show (wr.cell? ⟨b, off + i * 6, none⟩ = some (.string l[i].1) ∧ wr.cell? ⟨b, off + i * 6 + 1, none⟩ = some (.int .i64 k1) ∧ wr.cell? ⟨b, off + i * 6 + 1 + 1, none⟩ = some (.int .i64 n1) ∧ wr.cell? ⟨b, off + i * 6 + 1 + 2, none⟩ = some (.string s1) ∧ wr.cell? ⟨b, off + i * 6 + 1 + 3, none⟩ = some (.slice a1 l1 c1) ∧ wr.cell? ⟨b, off + i * 6 + 1 + 4, none⟩ = some (.slice a2 l2 c2)) ∧ (wr.cell? ⟨w.heap.size, 0, none⟩ = some (.string name) ∧ wr.cell? ⟨w.heap.size, 1, none⟩ = some y1 ∧ wr.cell? ⟨w.heap.size, 2, none⟩ = some y2 ∧ wr.cell? ⟨w.heap.size, 3, none⟩ = some y3 ∧ wr.cell? ⟨w.heap.size, 4, none⟩ = some y4 ∧ wr.cell? ⟨w.heap.size, 5, none⟩ = some y5) from ⟨⟨gn, g0, g1, g2, g3, g4⟩, t0, t1, t2, t3, t4, t5⟩)
        have HLT := hid (show b < wr.heap.size ∧ w.heap.size < wr.heap.size from ⟨Nat.lt_of_lt_of_le hbl HK.out.size, HLW.out⟩)
        by_cases hz : z = 0
        · subst hz
          go_wp2_with fail
          go_region_held3 (fun (w' : World) => (w'.cell? ⟨b, off + i * 6, none⟩ = some (.string l[i].1) ∧ w'.cell? ⟨b, off + i * 6 + 1, none⟩ = some (.int .i64 k1) ∧ w'.cell? ⟨b, off + i * 6 + 1 + 1, none⟩ = some (.int .i64 n1) ∧ w'.cell? ⟨b, off + i * 6 + 1 + 2, none⟩ = some (.string s1) ∧ w'.cell? ⟨b, off + i * 6 + 1 + 3, none⟩ = some (.slice a1 l1 c1) ∧ w'.cell? ⟨b, off + i * 6 + 1 + 4, none⟩ = some (.slice a2 l2 c2)) ∧ (w'.cell? ⟨w.heap.size, 0, none⟩ = some (.string name) ∧ w'.cell? ⟨w.heap.size, 1, none⟩ = some y1 ∧ w'.cell? ⟨w.heap.size, 2, none⟩ = some y2 ∧ w'.cell? ⟨w.heap.size, 3, none⟩ = some y3 ∧ w'.cell? ⟨w.heap.size, 4, none⟩ = some y4 ∧ w'.cell? ⟨w.heap.size, 5, none⟩ = some y5))
            (first | exact HS1.out | exact HS0.out | go_keep)
            ((go_at_call 147; refine (hby _ _ _ _ _ _ _ _ _ _ _).mono ?_; rintro e w1 ⟨rfl, hb1⟩; (have hb2 := below_undrew hb1); (have HS1 := hid (twelve HS0.out hb2 HLT.out.1 HLT.out.2))))
          all_goals
            go_wp2
            go_ret2
            exact ⟨⟨i, true, rfl, ⟨by omega, HLO.out, HHI.out, ⟨fun _ => ⟨_, HG.out, HZ.out.1 (by first | rfl | trivial)⟩, fun _ => rfl⟩⟩⟩, HK.out.trans (hb2.mono HK.out.size)⟩
        · have hz' : (z == 0) = false := by simpa using hz
          go_wp2_with fail
          go_region_held3 (fun (w' : World) => (w'.cell? ⟨b, off + i * 6, none⟩ = some (.string l[i].1) ∧ w'.cell? ⟨b, off + i * 6 + 1, none⟩ = some (.int .i64 k1) ∧ w'.cell? ⟨b, off + i * 6 + 1 + 1, none⟩ = some (.int .i64 n1) ∧ w'.cell? ⟨b, off + i * 6 + 1 + 2, none⟩ = some (.string s1) ∧ w'.cell? ⟨b, off + i * 6 + 1 + 3, none⟩ = some (.slice a1 l1 c1) ∧ w'.cell? ⟨b, off + i * 6 + 1 + 4, none⟩ = some (.slice a2 l2 c2)) ∧ (w'.cell? ⟨w.heap.size, 0, none⟩ = some (.string name) ∧ w'.cell? ⟨w.heap.size, 1, none⟩ = some y1 ∧ w'.cell? ⟨w.heap.size, 2, none⟩ = some y2 ∧ w'.cell? ⟨w.heap.size, 3, none⟩ = some y3 ∧ w'.cell? ⟨w.heap.size, 4, none⟩ = some y4 ∧ w'.cell? ⟨w.heap.size, 5, none⟩ = some y5))
            (first | exact HS1.out | exact HS0.out | go_keep)
            ((go_at_call 147; refine (hby _ _ _ _ _ _ _ _ _ _ _).mono ?_; rintro e w1 ⟨rfl, hb1⟩; (have hb2 := below_undrew hb1); (have HS1 := hid (twelve HS0.out hb2 HLT.out.1 HLT.out.2))))
          all_goals
            go_wp2
            go_ret2
            refine ⟨⟨i, false, rfl, ⟨by omega, HLO.out, HHI.out, ⟨fun h => (by cases h), fun h => ?_⟩⟩⟩, HK.out.trans (hb2.mono HK.out.size)⟩
            obtain ⟨q, hq, hn⟩ := h
            rw [HG.out] at hq
            cases hq
            exact absurd (HZ.out.2 hn) hz
      · have hil' : ¬ (i : Int) < l.length := by omega
        have hd : decide ((i : Int) < (l.length : Int)) = false := decide_eq_false hil'
        go_wp2_with fail
        go_quiet (fail)
        go_wp2
        go_ret2
        refine ⟨⟨i, false, rfl, ⟨by omega, HLO.out, HHI.out, ⟨fun h => (by cases h), fun h => ?_⟩⟩⟩, ?_⟩
        · obtain ⟨q, hq, hn⟩ := h
          have := (List.getElem?_eq_some_iff.1 hq).1
          omega
        · exact below_drewN hB1 _
end Go.Proofs.YtflcibmjblioaaaGreatDoor

/-
  The program's reader: dictionaries.
-/
namespace Go.Proofs.YtflcibmjblioaaaGreatDoor
open Go.RowKit
set_option maxRecDepth 100000

def lenAt4 (b : Nat) (w : World) : Nat := match w.cell? ⟨b, 4, none⟩ with | some (.slice _ n _) => n | _ => 0
theorem lenAt4_at {w : World} {b : Nat} {T : TypeId} {v0 v1 v2 v3 : Value} {a : Option Addr} {n c : Nat} (h : At w b T #[v0, v1, v2, v3, .slice a n c]) : lenAt4 b w = n := by
  have h3 : w.cell? ⟨b, 4, none⟩ = some (.slice a n c) := At.cell h 4
  unfold lenAt4; rw [h3]
theorem own_slice6 {w : World} {B : Nat} {t : Value} {n : Nat} {xs : List Value} (h : w.ownsRow B 74 6 t n xs) : ∃ a c, t = .slice a n c := by
  rcases h.2 with ⟨rfl, h0⟩ | ⟨g, cap, cur, rfl, _⟩
  · exact ⟨none, 0, by rw [h0]⟩
  · exact ⟨_, cap, rfl⟩
theorem endsR_to2 {s : ByteArray} {k : Nat} (hk : k ≤ s.size) {x : Int} {y : Bool} {z : Nat} (h : endsR s wEnd2 k = (x, y, z)) : z ≤ s.size := by
  have hl := skipP_le hk
  unfold endsR at h
  split at h
  · injection h with h1 h2; injection h2 with _ h3; omega
  · split at h
    · rename_i hp
      have h4 : wEnd2.data.toList.length ≤ (s.data.toList.drop (skipP s k)).length := by
        have : wEnd2.data.toList <+: s.data.toList.drop (skipP s k) := List.isPrefixOf_iff_prefix.1 hp
        exact this.length_le
      have h5 : wEnd2.data.toList.length = 2 := rfl
      have h6 : wEnd2.size = 2 := rfl
      rw [List.length_drop] at h4
      simp only [Array.length_toList, ByteArray.size_data] at h4
      injection h with _ h2; injection h2 with _ h3; omega
    · injection h with _ h2; injection h2 with _ h3; omega
theorem endsR_lt {s p : ByteArray} {k : Nat} (hk : k ≤ s.size) {z : Nat} (h : endsR s p k = (0, false, z)) : z < s.size := by
  have hl := skipP_le hk
  unfold endsR at h
  split at h
  · injection h with h1 h2; exact absurd h1 (by decide)
  · split at h
    · injection h with _ h2; injection h2 with h3 _; cases h3
    · rename_i h0 _
      injection h with _ h2; injection h2 with _ h3; omega
theorem Dicted.vkept {P : Nat} {w b w2 : World} {s : ByteArray} {i d : Nat} {t : Value} {O : List FC} (h : Dicted P w b s i d t O) (hg : b.grownBy w2 t.ownBlock) :
    At w2 (w.heap.size + 1) 40 #[.int .i64 6, .int .i64 0, .string ⟨#[]⟩, .slice none 0 0, t] ∧ At w2 w.heap.size 40 (vc 0 0 ⟨#[]⟩) := by
  have hs := h.size
  have same : ∀ k, k < w.heap.size + 2 → w2.heap[k]? = b.heap[k]? := fun k hk =>
    hg.block k (by omega) (fun e => by have := (h.own.lt k e.symm).1; omega)
  exact ⟨(same _ (by omega)).trans h.vbox, (same _ (by omega)).trans h.box⟩
/-- The search, where the fields lie in a row that the reader owns. -/
theorem dSearch {P : Nat} {w a : World} {s : ByteArray} {j d : Nat} {al : Option Addr} {cl : Nat} {O : List FC} (name : ByteArray) (y1 y2 y3 y4 y5 : Value) (r : Bool) (hO : O.length ≤ 300) (hp : (O.map (·.1)).Pairwise fun p q => Lt p.1 q.1) (hr : (getF name (O.map (·.1))).isSome = r) (h1 : ∀ u ∈ [y1, y2, y3, y4, y5], u.oneCell' = true)
    (h : Dicted P w a s j d (.slice al O.length cl) O) :
    Calls Tryz.prog 146 #[.slice al O.length cl, .agg #[.string name, y1, y2, y3, y4, y5], .func (.func 147) #[] #[]] a fun e w' => (∃ t : Nat, e = .returned (.tuple #[.int .i64 (t : Nat), .bool r]) ∧ Hid (FoundAt name (O.map (·.1)) t r)) ∧ Below a.heap.size a w' := by
  obtain ⟨af, cf, he, hF⟩ := h.slice
  cases he
  have q := search_says (w := a) name y1 y2 y3 y4 y5 (O.map (·.1)) al cl (by simp; omega) hF hp h1
  rw [List.length_map] at q
  refine q.mono ?_
  rintro e w' ⟨⟨t, b, rfl, hf⟩, hb⟩
  have := hf.getF hp
  rw [hr] at this
  subst this
  exact ⟨⟨t, rfl, hid hf⟩, hb⟩
/-- The row with a field laid in. -/
theorem ins_flat {O : List FC} {t : Nat} {o : FC} {d : Nat} {w : World} (hk : ∀ o ∈ O, o.ok d w) : (flatO O).take (t * 6) ++ o.cells ++ (flatO O).drop (t * 6) = flatO (O.take t ++ o :: O.drop t) := by
  rw [flatO_takeL t fun o ho => FC.len (hk o ho), flatO_dropL t fun o ho => FC.len (hk o ho), flatO_append, show flatO (o :: O.drop t) = o.cells ++ flatO (O.drop t) from by simp [flatO], List.append_assoc]
theorem flat_ones {O : List FC} {d : Nat} {w : World} (hk : ∀ o ∈ O, o.ok d w) : ∀ u ∈ flatO O, u.oneCell' = true := by
  intro u hu
  obtain ⟨o, ho, hu⟩ := List.mem_flatMap.1 hu
  rcases List.mem_cons.1 hu with rfl | hu
  · rfl
  · have := rep_ones (hk o ho).2
    simp only [List.all_toArray, List.all_eq_true] at this
    exact this u hu
/-- The row takes a field in. -/
theorem dInsert {P : Nat} {w a : World} {s : ByteArray} {j d : Nat} {al : Option Addr} {cl t : Nat} {O : List FC} (x : V) (name : ByteArray) (y1 y2 y3 y4 y5 : Value) (hO : O.length ≤ 300) (ht : t ≤ O.length) (h1 : ∀ u ∈ [y1, y2, y3, y4, y5], u.oneCell' = true)
    (h : Dicted P w a s j d (.slice al O.length cl) O) (hx : name.size ≤ 200 ∧ RepIn (Room (w.heap.size + 2) a (.slice al O.length cl)) d a x [y1, y2, y3, y4, y5]) :
    Calls Tryz.prog 34 #[.slice al O.length cl, .int .i64 (t : Nat), .slice (some ⟨a.heap.size, 0, none⟩) 1 1] (a.alloc (.cells #[.string name, y1, y2, y3, y4, y5] 74)) fun e w2 => ∃ a' c', e = .returned (.slice a' (O.length + 1) c') ∧
      At w2 (w.heap.size + 1) 40 #[.int .i64 6, .int .i64 0, .string ⟨#[]⟩, .slice none 0 0, .slice al O.length cl] ∧ At w2 w.heap.size 40 (vc 0 0 ⟨#[]⟩) ∧
      Hid (Dicted P w (w2.setCell ⟨w.heap.size + 1, 4, none⟩ (.slice a' (O.length + 1) c')) s j d (.slice a' (O.length + 1) c') (O.take t ++ ((name, x), [y1, y2, y3, y4, y5]) :: O.drop t)) := by
  have hA := h.below (below_box a (.cells #[.string name, y1, y2, y3, y4, y5] 74))
  have hx' := hx.2
  have hsz := h.size
  refine (insertAt_says (i := t) hA.own (by have := hA.size; omega) (by omega) ht a.heap.size (.string name) y1 y2 y3 y4 y5 (At.new a _ _ rfl) (fun e => by have := (h.own.lt _ e).2; omega) (fun u hu => by
    rcases List.mem_cons.1 hu with rfl | hu
    · rfl
    · exact h1 u hu) (flat_ones hA.ok)).mono ?_
  rintro e w2 ⟨v', rfl, hown, hg, hat⟩
  obtain ⟨a', c', rfl⟩ := own_slice6 hown
  have hl : (O.take t ++ ((name, x), [y1, y2, y3, y4, y5]) :: O.drop t).length = O.length + 1 := by simp; omega
  have hfl := ins_flat (t := t) (o := ((name, x), [y1, y2, y3, y4, y5])) hA.ok
  have e6 : FC.cells ((name, x), [y1, y2, y3, y4, y5]) = [.string name, y1, y2, y3, y4, y5] := rfl
  rw [e6] at hfl
  rw [hfl] at hown
  have hown' : w2.ownsRow (w.heap.size + 2) 74 6 (.slice a' (O.length + 1) c') (O.take t ++ ((name, x), [y1, y2, y3, y4, y5]) :: O.drop t).length (flatO (O.take t ++ ((name, x), [y1, y2, y3, y4, y5]) :: O.drop t)) := by rw [hl]; exact hown
  obtain ⟨k1, k2⟩ := hA.vkept hg
  refine ⟨a', c', rfl, k1, k2, hid ?_⟩
  have g := hA.grow (o := ((name, x), [y1, y2, y3, y4, y5])) (O' := O.take t ++ ((name, x), [y1, y2, y3, y4, y5]) :: O.drop t) ⟨hx.1, (hx'.agree (by simp) fun k hk => heap_alloc_old _ _ hk.2.1).mono fun k hk => ⟨hk.1, by have := hk.2.1; simp; omega, hk.2.2⟩⟩ (fun p hp => by
    rcases List.mem_append.1 hp with h1 | h1
    · exact .inl (List.mem_of_mem_take h1)
    · rcases List.mem_cons.1 h1 with rfl | h1
      · exact .inr rfl
      · exact .inl (List.mem_of_mem_drop h1)) hown' hg hat
  exact g
end Go.Proofs.YtflcibmjblioaaaGreatDoor
