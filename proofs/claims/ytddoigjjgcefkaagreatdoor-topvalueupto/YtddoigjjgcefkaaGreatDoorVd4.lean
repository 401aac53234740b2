/-
  Joined: Vc5, Vd3, Vd4.
-/
import Derived.Test.YtddoigjjgcefkaaGreatDoorVaa
import Derived.Test.YtddoigjjgcefkaaGreatDoorVd2

/-
  The program's own copy of a value.
-/
namespace Go.Proofs.YtddoigjjgcefkaaGreatDoor
open Go.RowKit
set_option maxRecDepth 100000

theorem tree_not_row {w : World} {base n b : Nat} {t : Value} {xs : List Value} (h : w.ownsRow base 59 1 t n xs) (hb : Tree w b) : some b ≠ t.ownBlock := by
  obtain ⟨cs, ty, h1, h2⟩ := hb
  rcases h.2 with ⟨rfl, _⟩ | ⟨g, cap, cur, rfl, _, hg, _⟩
  · simp [Value.ownBlock]
  · intro e
    have e' : b = g := by simpa [Value.ownBlock] using e
    subst e'
    rw [h1] at hg
    cases hg
    rcases h2 with h2 | h2 <;> exact absurd h2 (by decide)
/-- A round, and how far its list of work has grown. -/
structure Going (w0 w : World) (p : Pl) (d : Nat) (al af : Option Addr) (cl cf bl bf : Nat) (base R1 : Nat) (P : List Pl) (t : Value) (wq : World) : Prop where
  split : Split w0 w p d al af cl cf bl bf wq
  own : wq.ownsRow base 59 1 t P.length (P.map Pl.ptr)
  box : At wq R1 26 #[.int .i64 0, .int .i64 0, .string ⟨#[]⟩, .slice none 0 0, .slice none 0 0]
  tree : Tree wq p.b
theorem Going.step {w0 w : World} {p : Pl} {d : Nat} {al af : Option Addr} {cl cf bl bf base R1 : Nat} {P : List Pl} {t : Value} {wq w1 w2 : World} (h : Going w0 w p d al af cl cf bl bf base R1 P t wq) (hb0 : w0.heap.size ≤ base) (q : Pl) {v' : Value}
    (hw1 : Below wq.heap.size wq w1) (hown : w2.ownsRow base 59 1 v' (P.length + 1) (P.map Pl.ptr ++ [q.ptr])) (hg : w1.grownBy w2 t.ownBlock) : Going w0 w p d al af cl cf bl bf base R1 (P ++ [q]) v' w2 := by
  have keep : ∀ b, Tree wq b → w2.heap[b]? = wq.heap[b]? := fun b hb => by
    rw [hg.block b (Nat.lt_of_lt_of_le hb.lt hw1.size) (tree_not_row h.own hb), hw1.block b hb.lt]
  have tr : ∀ b, Tree wq b → Tree w2 b := fun b ⟨cs, ty, h1, h2⟩ => ⟨cs, ty, (keep b ⟨cs, ty, h1, h2⟩).trans h1, h2⟩
  refine ⟨h.split.grow h.tree ?_ (Nat.le_trans hw1.size hg.size) keep, ?_, ?_, tr _ h.tree⟩
  · exact (h.split.below.trans (hw1.mono h.split.below.size)).grown hg (Nat.le_trans h.split.below.size hw1.size) (fun k hk => Nat.le_trans hb0 (h.own.lt k hk).1)
  · rw [List.length_append, List.map_append]; exact hown
  · exact (keep R1 ⟨_, _, h.box, .inl rfl⟩).trans h.box
theorem cntL_ge : ∀ l : List V, l.length ≤ cntL l
  | [] => by simp
  | x :: l => by
    have := cntL_ge l
    have : 1 ≤ x.cnt := by rw [cnt_eq]; omega
    rw [cntL]; simp; omega
theorem cntF_ge : ∀ l : List (ByteArray × V), l.length ≤ cntF l
  | [] => by simp
  | x :: l => by
    have := cntF_ge l
    have : 1 ≤ x.2.cnt := by rw [cnt_eq]; omega
    rw [cntF_cons]; simp; omega
/-- What copying holds on to between rounds. -/
structure Rounds (w : World) (r : Pl) (k : Nat) (t : Value) (wr : World) (P : List Pl) : Prop where
  left : leftC P = k
  own : wr.ownsRow (w.heap.size + 2) 59 1 t P.length (P.map Pl.ptr)
  copying : Copying w r (w.heap.size + 2) wr P
  far : ∀ p ∈ P, p.b ≠ w.heap.size + 1
  box : At wr (w.heap.size + 1) 26 #[.int .i64 0, .int .i64 0, .string ⟨#[]⟩, .slice none 0 0, .slice none 0 0]
  most : k ≤ 1048576
  size : w.heap.size + 2 ≤ wr.heap.size
theorem rounds_start {e : Nat} {w : World} {v : V} {al af : Option Addr} {cl cf : Nat} (hv : RepN (e + 1) w v [.int .i64 v.k, .int .i64 v.n, .string v.s, .slice al v.l.length cl, .slice af v.f.length cf]) (hcn : v.cnt ≤ 1048576) :
    Rounds w ⟨w.heap.size, 0, e + 1, v⟩ v.cnt (.slice (some ⟨w.heap.size + 1 + 1, 0, none⟩) 1 1) (((w.alloc (.cells #[.int .i64 v.k, .int .i64 v.n, .string v.s, .slice al v.l.length cl, .slice af v.f.length cf] 26)).alloc (.cells #[.int .i64 0, .int .i64 0, .string ⟨#[]⟩, .slice none 0 0, .slice none 0 0] 26)).alloc (.cells #[.pointer (some ⟨w.heap.size, 0, none⟩)] 59)) [⟨w.heap.size, 0, e + 1, v⟩] := by
  have A1 := ((At.new w #[.int .i64 v.k, .int .i64 v.n, .string v.s, .slice al v.l.length cl, .slice af v.f.length cf] 26 rfl).alloc (.cells #[.int .i64 0, .int .i64 0, .string ⟨#[]⟩, .slice none 0 0, .slice none 0 0] 26)).alloc (.cells #[.pointer (some ⟨w.heap.size, 0, none⟩)] 59)
  have A2 := (At.new (w.alloc (.cells #[.int .i64 v.k, .int .i64 v.n, .string v.s, .slice al v.l.length cl, .slice af v.f.length cf] 26)) #[.int .i64 0, .int .i64 0, .string ⟨#[]⟩, .slice none 0 0, .slice none 0 0] 26 (b := w.heap.size + 1) (by simp)).alloc (.cells #[.pointer (some ⟨w.heap.size, 0, none⟩)] 59)
  have hB : Below w.heap.size w (((w.alloc (.cells #[.int .i64 v.k, .int .i64 v.n, .string v.s, .slice al v.l.length cl, .slice af v.f.length cf] 26)).alloc (.cells #[.int .i64 0, .int .i64 0, .string ⟨#[]⟩, .slice none 0 0, .slice none 0 0] 26)).alloc (.cells #[.pointer (some ⟨w.heap.size, 0, none⟩)] 59)) := by go_grown
  refine ⟨by simp [leftC], ?_, ⟨hB, ?_, by simp, ?_⟩, by simp, A2, hcn, by simp⟩
  · have := World.ownsRow_lit (base := w.heap.size + 2) (e := 59) (size := 1) ((w.alloc (.cells #[.int .i64 v.k, .int .i64 v.n, .string v.s, .slice al v.l.length cl, .slice af v.f.length cf] 26)).alloc (.cells #[.int .i64 0, .int .i64 0, .string ⟨#[]⟩, .slice none 0 0, .slice none 0 0] 26)) #[.pointer (some ⟨w.heap.size, 0, none⟩)] 1 (by simp) (by decide) rfl
    simpa [Pl.ptr] using this
  · intro p hp
    rw [List.mem_singleton.1 hp]
    exact ⟨Nat.le_refl _, ⟨_, _, A1, .inl rfl⟩, _, fun i c hc => by rw [A1.cell]; simpa using hc, hv⟩
  · intro w' _ hD
    obtain ⟨h1, c, h2, h3⟩ := hD ⟨w.heap.size, 0, e + 1, v⟩ (by simp)
    exact ⟨h1, c, h2, h3.low (by simp)⟩
end Go.Proofs.YtddoigjjgcefkaaGreatDoor

/-
  What a dictionary has by a name: the program's answer, and the document's.
-/
namespace Go.Proofs.YtddoigjjgcefkaaGreatDoor
open Go.RowKit
set_option maxRecDepth 100000

def V.zero : V := ⟨0, 0, ⟨#[]⟩, [], []⟩
theorem rep_zero (d : Nat) (w : World) : RepN (d + 1) w V.zero [.int .i64 0, .int .i64 0, .string ⟨#[]⟩, .slice none 0 0, .slice none 0 0] :=
  ⟨none, none, 0, 0, rfl, by unfold maxLen; simp [V.zero, ByteArray.size], fun i x h => by simp [V.zero] at h, fun i x h => by simp [V.zero] at h⟩
/-- What the first field of a name has. -/
def getF (name : ByteArray) : List (ByteArray × V) → Option V
  | [] => none
  | q :: l => if q.1.toList == name.toList then some q.2 else getF name l
theorem getF_none {name : ByteArray} : ∀ {f : List (ByteArray × V)}, (∀ q ∈ f, (q.1.toList == name.toList) = false) → getF name f = none
  | [], _ => rfl
  | q :: l, h => by rw [getF, h q (by simp)]; exact getF_none (fun p hp => h p (by simp [hp]))
theorem getF_some {name : ByteArray} : ∀ {f : List (ByteArray × V)} {i : Nat} {q : ByteArray × V}, f[i]? = some q → (q.1.toList == name.toList) = true → (∀ (j : Nat) (s : ByteArray × V), j < i → f[j]? = some s → (s.1.toList == name.toList) = false) → getF name f = some q.2
  | [], i, q, h, _, _ => by simp at h
  | p :: l, 0, q, h, hq, _ => by simp at h; subst h; rw [getF, hq]; rfl
  | p :: l, i + 1, q, h, hq, hj => by
    rw [getF, hj 0 p (by omega) rfl]
    exact getF_some (by simpa using h) hq (fun j s hlt hs => hj (j + 1) s (by omega) (by simpa using hs))
theorem cnt_memF : ∀ {l : List (ByteArray × V)} {q : ByteArray × V}, q ∈ l → q.2.cnt ≤ cntF l
  | p :: l, q, h => by
    rw [cntF_cons]
    rcases List.mem_cons.1 h with rfl | h
    · omega
    · have := cnt_memF h; omega

theorem rep_ones {d : Nat} {w : World} {v : V} {c : List Value} (h : RepN d w v c) : c.toArray.all (·.oneCell') = true := by
  obtain ⟨e, rfl⟩ := h.inv
  obtain ⟨_, _, _, _, rfl, _⟩ := h
  simp [Value.oneCell']
set_option maxHeartbeats 1000000 in
theorem rGet_says {d : Nat} {w : World} {v : V} {cs : List Value} (name : ByteArray) (hv : RepN d w v cs) :
    Calls Tryz.prog 86 #[.agg cs.toArray, .string name] w fun e w' => (∃ c, e = .returned (.tuple #[.agg c.toArray, .bool (getF name v.f).isSome]) ∧ RepN d w' ((getF name v.f).getD V.zero) c) ∧ Below w.heap.size w w' := by
  obtain ⟨e, rfl⟩ := hv.inv
  obtain ⟨al, af, cl, cf, rfl, ⟨_, _, hf⟩, _, hF⟩ := hv
  have HF := hid hF
  clear hF
  unfold maxLen at hf
  go_enter Tryz.func86, Tryz.ntmps86
  go_wp2_with fail
  go_loopw [6] (fun i wr => ∃ j : Nat, i = .int .i64 j ∧ j ≤ v.f.length ∧ (∀ (i : Nat) (q : ByteArray × V), i < j → v.f[i]? = some q → (q.1.toList == name.toList) = false) ∧ BoxV wr w.heap.size v al af cl cf ∧ At wr (w.heap.size + 1) 26 #[.int .i64 0, .int .i64 0, .string ⟨#[]⟩, .slice none 0 0, .slice none 0 0] ∧ Below w.heap.size w wr) (fun i _ => v.f.length - (intOf i).toNat)
  case atStart => exact ⟨0, rfl, Nat.zero_le _, fun i q hi => by omega, (At.new w _ _ rfl).alloc _, At.new (w.alloc _) _ _ (by simp), by go_grown⟩
  case round =>
    obtain ⟨j, rfl, hj, hz, hA, hR, hB⟩ := hrel
    have HZ := hid hz
    clear hz
    have mc := hA.cell
    have mz := hA.lt
    by_cases hjl : j < v.f.length
    · have hjl' : (j : Int) < v.f.length := by omega
      obtain ⟨b, off, c, rfl, hbl, _, hcn, hc, hr⟩ := HF.out j v.f[j] (List.getElem?_eq_getElem hjl)
      have hbr : b < wr.heap.size := Nat.lt_of_lt_of_le hbl hB.size
      obtain ⟨k1, n1, s1, a1, l1, c1, a2, l2, c2, rfl, g0, g1, g2, g3, g4⟩ := rep_cells (hr.later hB) (hc.later hbl hB)
      have gn := (hB.cell (p := ⟨b, off + j * 6, none⟩) hbl).trans hcn
      have HR := hid hr
      clear hr hc hcn
      cases hp : (v.f[j].1.toList == name.toList)
      · have HP := hid hp
        go_wp2_with fail
        go_roundw
        case rel =>
          refine ⟨j + 1, by go_num, by omega, fun i q hi hq => ?_, hA, hR, hB⟩
          by_cases hij : i = j
          · rw [hij, List.getElem?_eq_getElem hjl] at hq
            cases hq
            exact HP.out
          · exact HZ.out i q (by omega) hq
        case measure => simp [intOf]; omega
      · have HG := hid (getF_some (List.getElem?_eq_getElem hjl) hp HZ.out)
        go_wp2_with (refine wpList_store_row rfl 26 (.tmp 4) (.tmp 27) rfl (w.heap.size + 1) #[.int .i64 k1, .int .i64 n1, .string s1, .slice a1 l1 c1, .slice a2 l2 c2] rfl rfl 26 #[.int .i64 0, .int .i64 0, .string ⟨#[]⟩, .slice none 0 0, .slice none 0 0] hR (by kernel_rfl) rfl (by simp [Value.oneCell']) ?_)
        have rc := (hR.setRow #[.int .i64 k1, .int .i64 n1, .string s1, .slice a1 l1 c1, .slice a2 l2 c2]).cell
        refine bodyPost_ret (v := .tuple #[.agg #[.int .i64 k1, .int .i64 n1, .string s1, .slice a1 l1 c1, .slice a2 l2 c2], .bool true]) (by simp [results, Tryz.results86, go_sem, rc]) rfl ⟨⟨[.int .i64 k1, .int .i64 n1, .string s1, .slice a1 l1 c1, .slice a2 l2 c2], by rw [HG.out]; rfl, ?_⟩, below_setRow hB (by omega) _⟩
        rw [HG.out]
        exact (HR.out.later (below_setRow hB (by omega) _)).mono (by omega)
    · have hjl' : ¬ (j : Int) < v.f.length := by omega
      have HG := hid (getF_none (name := name) (f := v.f) (fun q hq => by
        obtain ⟨i, hi⟩ := List.getElem?_of_mem hq
        exact HZ.out i q (by have := (List.getElem?_eq_some_iff.1 hi).1; omega) hi))
      go_wp2_with (refine wpList_store_row rfl 26 (.tmp 4) (.tmp 28) rfl (w.heap.size + 1) #[.int .i64 0, .int .i64 0, .string ⟨#[]⟩, .slice none 0 0, .slice none 0 0] rfl rfl 26 #[.int .i64 0, .int .i64 0, .string ⟨#[]⟩, .slice none 0 0, .slice none 0 0] hR (by kernel_rfl) rfl (by simp [Value.oneCell']) ?_)
      go_wp2_with fail
      have rc := (hR.setRow #[.int .i64 0, .int .i64 0, .string ⟨#[]⟩, .slice none 0 0, .slice none 0 0]).cell
      refine bodyPost_ret (v := .tuple #[.agg #[.int .i64 0, .int .i64 0, .string ⟨#[]⟩, .slice none 0 0, .slice none 0 0], .bool false]) (by simp [results, Tryz.results86, go_sem, rc]) rfl ⟨⟨[.int .i64 0, .int .i64 0, .string ⟨#[]⟩, .slice none 0 0, .slice none 0 0], by rw [HG.out]; rfl, by rw [HG.out]; exact rep_zero e _⟩, below_setRow hB (by omega) _⟩
end Go.Proofs.YtddoigjjgcefkaaGreatDoor

/-
  A field that is set: the document's own answer.
-/
namespace Go.Proofs.YtddoigjjgcefkaaGreatDoor
open Go.RowKit
set_option maxRecDepth 100000

/-- Fields, and the cells of their values. -/
abbrev FC := (ByteArray × V) × List Value
def FC.cells (o : FC) : List Value := .string o.1.1 :: o.2
def FC.ok (d : Nat) (w : World) (o : FC) : Prop := o.1.1.size ≤ maxLen ∧ RepN d w o.1.2 o.2
def flatO (O : List FC) : List Value := O.flatMap FC.cells
theorem flatO_append (O O' : List FC) : flatO (O ++ O') = flatO O ++ flatO O' := List.flatMap_append
theorem flatO_one (o : FC) : flatO [o] = o.cells := by simp [flatO]
theorem FC.len {d : Nat} {w : World} {o : FC} (h : o.ok d w) : o.cells.length = 6 := by simp [FC.cells, rep_len h.2]
theorem flatO_len {d : Nat} {w : World} : ∀ {O : List FC}, (∀ o ∈ O, o.ok d w) → (flatO O).length = O.length * 6
  | [], _ => rfl
  | o :: O, h => by
    have := flatO_len (O := O) (fun p hp => h p (by simp [hp]))
    have h1 := FC.len (h o (by simp))
    rw [flatO, List.flatMap_cons, List.length_append, List.length_cons, h1, show (List.flatMap FC.cells O).length = O.length * 6 from this]; omega
theorem flatO_get {d : Nat} {w : World} : ∀ {O : List FC} {i : Nat} {o : FC}, (∀ o ∈ O, o.ok d w) → O[i]? = some o → ∀ j, j < 6 → (flatO O)[i * 6 + j]? = o.cells[j]?
  | [], i, o, _, h, _, _ => by simp at h
  | p :: O, 0, o, hk, h, j, hj => by
    simp at h; subst h
    have := FC.len (hk p (by simp))
    rw [flatO, List.flatMap_cons, List.getElem?_append_left (by omega)]; simp
  | p :: O, i + 1, o, hk, h, j, hj => by
    have h1 := FC.len (hk p (by simp))
    have ih := flatO_get (O := O) (fun q hq => hk q (by simp [hq])) (show O[i]? = some o by simpa using h) j hj
    rw [flatO, List.flatMap_cons, List.getElem?_append_right (by omega), h1, show (i + 1) * 6 + j - 6 = i * 6 + j by omega]
    exact ih
/-- A row of fields that a call owns is a list of fields. -/
theorem own_fields {d base : Nat} {w wr : World} {t : Value} {O : List FC} (h : wr.ownsRow base 54 6 t O.length (flatO O)) (hk : ∀ o ∈ O, o.ok d w) (hb : Below w.heap.size w wr) :
    ∃ af cf, t = .slice af O.length cf ∧ FAt d wr (O.map (·.1)) af := by
  rcases h.2 with ⟨rfl, h0⟩ | ⟨g, cap, cur, rfl, _, hg, _⟩
  · refine ⟨none, 0, by rw [h0], fun i q hq => ?_⟩
    have : O = [] := List.eq_nil_of_length_eq_zero h0
    subst this; simp at hq
  · refine ⟨_, cap, rfl, fun i q hq => ?_⟩
    rw [List.getElem?_map, Option.map_eq_some_iff] at hq
    obtain ⟨o, ho, rfl⟩ := hq
    have hi := (List.getElem?_eq_some_iff.1 ho).1
    have ok := hk o (List.mem_of_getElem? ho)
    have cell : ∀ j, j < 6 → wr.cell? ⟨g, i * 6 + j, none⟩ = o.cells[j]? := fun j hj => by
      rw [h.cellAt _ (by omega), flatO_get hk ho j hj]
    refine ⟨g, 0, o.2, rfl, (Array.getElem?_eq_some_iff.1 hg).1, ok.1, ?_, fun j c hc => ?_, ok.2.later hb⟩
    · rw [Nat.zero_add]; exact cell 0 (by omega)
    · have hj := (List.getElem?_eq_some_iff.1 hc).1
      rw [rep_len ok.2] at hj
      have := cell (1 + j) (by omega)
      rw [Nat.zero_add, Nat.add_assoc, this, Nat.add_comm 1 j]
      simpa [FC.cells] using hc
theorem news_at {w : World} {cells : Array Value} {vs : List Value} {e : TypeId} (hx : cells = vs.toArray) (j : Nat) (u : Value) (h : vs[j]? = some u) : (w.alloc (.cells cells e)).cell? ((⟨w.heap.size, 0, none⟩ : Addr).add j) = some u := by
  subst hx
  rw [Lib.add_plain, World.cell?_alloc_new]; simpa using h
/-- How far setting has come. -/
structure Laying (d : Nat) (w wb : World) (name : ByteArray) (x : V) (f : List (ByteArray × V)) (t : Value) (laid : Bool) (j : Nat) (wr : World) (O : List FC) : Prop where
  own : wr.ownsRow wb.heap.size 54 6 t O.length (flatO O)
  ok : ∀ o ∈ O, o.ok d w
  below : Below wb.heap.size wb wr
  eq : O.map (·.1) ++ rsetF name x (f.drop j) laid = rsetF name x f false
  len : O.length ≤ j + 1
  len0 : laid = false → O.length ≤ j
end Go.Proofs.YtddoigjjgcefkaaGreatDoor
