/-
  Joined: Vd3, Vd4, Vd5.
-/
import Derived.Test.YtflcibmjblioaaaGreatDoorVc1
import Derived.Test.YtflcibmjblioaaaGreatDoorVc5

/-
  What a dictionary has by a name: the program's answer, and the document's.
-/
namespace Go.Proofs.YtflcibmjblioaaaGreatDoor
open Go.RowKit
set_option maxRecDepth 100000

def V.zero : V := ⟨0, 0, ⟨#[]⟩, [], []⟩
theorem rep_zero (d : Nat) (w : World) : RepN (d + 1) w V.zero [.int .i64 0, .int .i64 0, .string ⟨#[]⟩, .slice none 0 0, .slice none 0 0] :=
  ⟨none, none, 0, 0, rfl, by unfold maxLen; simp [V.zero, ByteArray.size], fun i x h => by simp [V.zero] at h, fun i x h => by simp [V.zero] at h⟩
/-- What the first field of a name has. -/
def getF (name : ByteArray) : List (ByteArray × V) → Option V
  | [] => none
  | q :: l => if q.1.toList == name.toList then some q.2 else getF name l
theorem getF_none {name : ByteArray} : ∀ {f : List (ByteArray × V)}, (∀ q ∈ f, (q.1.toList == name.toList) = false) → getF name f = none
  | [], _ => rfl
  | q :: l, h => by rw [getF, h q (by simp)]; exact getF_none (fun p hp => h p (by simp [hp]))
theorem getF_some {name : ByteArray} : ∀ {f : List (ByteArray × V)} {i : Nat} {q : ByteArray × V}, f[i]? = some q → (q.1.toList == name.toList) = true → (∀ (j : Nat) (s : ByteArray × V), j < i → f[j]? = some s → (s.1.toList == name.toList) = false) → getF name f = some q.2
  | [], i, q, h, _, _ => by simp at h
  | p :: l, 0, q, h, hq, _ => by simp at h; subst h; rw [getF, hq]; rfl
  | p :: l, i + 1, q, h, hq, hj => by
    rw [getF, hj 0 p (by omega) rfl]
    exact getF_some (by simpa using h) hq (fun j s hlt hs => hj (j + 1) s (by omega) (by simpa using hs))
theorem cnt_memF : ∀ {l : List (ByteArray × V)} {q : ByteArray × V}, q ∈ l → q.2.cnt ≤ cntF l
  | p :: l, q, h => by
    rw [cntF_cons]
    rcases List.mem_cons.1 h with rfl | h
    · omega
    · have := cnt_memF h; omega

theorem rep_ones {d : Nat} {w : World} {v : V} {c : List Value} (h : RepN d w v c) : c.toArray.all (·.oneCell') = true := by
  obtain ⟨e, rfl⟩ := h.inv
  obtain ⟨_, _, _, _, rfl, _⟩ := h
  simp [Value.oneCell']
set_option maxHeartbeats 1000000 in
theorem vGet_says {d : Nat} {w : World} {v : V} {cs : List Value} (name : ByteArray) (hv : RepN d w v cs) (hcn : v.cnt ≤ 1048576) :
    Calls Tryz.prog 24 #[.agg cs.toArray, .string name] w fun e w' => (∃ c, e = .returned (.tuple #[.agg c.toArray, .bool (getF name v.f).isSome]) ∧ RepN d w' ((getF name v.f).getD V.zero) c) ∧ Below w.heap.size w w' := by
  obtain ⟨e, rfl⟩ := hv.inv
  obtain ⟨al, af, cl, cf, rfl, ⟨_, _, hf⟩, _, hF⟩ := hv
  have hce := cnt_eq v
  have H := hid (fun w1 (h : Below w.heap.size w w1) => find_says (w := w1) name v.f af cf hf (FAt.later hF h))
  have HF := hid hF
  clear hF
  unfold maxLen at hf
  go_enter Tryz.func24, Tryz.ntmps24
  go_wp2_with (go_at_call 31; fail)
  go_at_call 31
  refine (H.out _ (by go_grown)).mono ?_
  rintro e1 w1 ⟨⟨r, rfl, hr⟩, hb1⟩
  have hA := At.later ((At.new w _ _ rfl).alloc _) hb1
  have hR := At.later (At.new (w.alloc _) _ _ (by simp) : At _ (w.heap.size + 1) _ _) hb1
  have mc := hA.cell
  have mz := hA.lt
  have hbw : Below w.heap.size w w1 := Below.trans (by go_grown) (hb1.mono (by simp; omega))
  clear hb1
  rcases hr with ⟨rfl, hno⟩ | ⟨i, q, rfl, hq, hp, hj⟩
  · have hg := getF_none hno
    have HG := hid hg
    clear hg hno
    go_wp2_with (refine wpList_store_row rfl 40 (.tmp 4) (.tmp 13) rfl (w.heap.size + 1) #[.int .i64 0, .int .i64 0, .string ⟨#[]⟩, .slice none 0 0, .slice none 0 0] rfl rfl 40 #[.int .i64 0, .int .i64 0, .string ⟨#[]⟩, .slice none 0 0, .slice none 0 0] hR (by kernel_rfl) rfl (by simp [Value.oneCell']) ?_)
    go_wp2_with fail
    have rc := (hR.setRow #[.int .i64 0, .int .i64 0, .string ⟨#[]⟩, .slice none 0 0, .slice none 0 0]).cell
    refine bodyPost_ret (v := .tuple #[.agg #[.int .i64 0, .int .i64 0, .string ⟨#[]⟩, .slice none 0 0, .slice none 0 0], .bool false]) (by simp [results, Tryz.results24, go_sem, rc]) rfl ⟨⟨[.int .i64 0, .int .i64 0, .string ⟨#[]⟩, .slice none 0 0, .slice none 0 0], by rw [HG.out]; rfl, by rw [HG.out]; exact rep_zero e _⟩, below_setRow hbw (by omega) _⟩
  · have hi := (List.getElem?_eq_some_iff.1 hq).1
    have hi' : (i : Int) < v.f.length := by omega
    have hi0 : (0 : Int) ≤ (i : Int) := by omega
    have hg := getF_some hq hp hj
    have HG := hid hg
    have hqc : q.2.cnt ≤ 1048576 := by have := cnt_memF (List.mem_of_getElem? hq); omega
    obtain ⟨b, off, c, rfl, hbl, _, _, hc, hr⟩ := HF.out i q hq
    obtain ⟨k1, n1, s1, a1, l1, c1, a2, l2, c2, rfl, g0, g1, g2, g3, g4⟩ := rep_cells (hr.later hbw) (hc.later hbl hbw)
    have hbr : b < w1.heap.size := Nat.lt_of_lt_of_le hbl hbw.size
    have HR := hid (hr.later hbw)
    clear hg hp hj hq hr hc
    go_wp2_with (first
      | (go_at_call 30; refine (copy_says HR.out hqc).mono ?_; rintro e2 w2 ⟨c3, rfl, hrg, hb2⟩; have HRG := hid hrg.rep; have HGG := hid hrg; have hR2 := hR.later hb2; have hc3 := rep_len hrg.rep; obtain ⟨u0, u1, u2, u3, u4, rfl⟩ := list5 hc3; clear hrg hc3)
      | (refine wpList_store_row rfl 40 (.tmp 4) (.tmp 20) rfl (w.heap.size + 1) #[u0, u1, u2, u3, u4] rfl rfl 40 #[.int .i64 0, .int .i64 0, .string ⟨#[]⟩, .slice none 0 0, .slice none 0 0] hR2 (by kernel_rfl) rfl (rep_ones HRG.out) ?_))
    have rc := (hR2.setRow #[u0, u1, u2, u3, u4]).cell
    refine bodyPost_ret (v := .tuple #[.agg #[u0, u1, u2, u3, u4], .bool true]) (by simp [results, Tryz.results24, go_sem, rc]) rfl ⟨⟨[u0, u1, u2, u3, u4], by rw [HG.out]; rfl, ?_⟩, below_setRow (hbw.trans (hb2.mono hbw.size)) (by omega) _⟩
    rw [HG.out]
    have hz := hR.lt
    exact ((HGG.out.same (by simp [World.setRow]) (fun b hb _ => setRow_other w2 (w.heap.size + 1) b _ (by omega))).rep).mono (by omega)
end Go.Proofs.YtflcibmjblioaaaGreatDoor

/-
  A field that is set: the document's own answer.
-/
namespace Go.Proofs.YtflcibmjblioaaaGreatDoor
open Go.RowKit
set_option maxRecDepth 100000

/-- Fields, and the cells of their values. -/
abbrev FC := (ByteArray × V) × List Value
def FC.cells (o : FC) : List Value := .string o.1.1 :: o.2
def FC.ok (d : Nat) (w : World) (o : FC) : Prop := o.1.1.size ≤ maxLen ∧ RepN d w o.1.2 o.2
def flatO (O : List FC) : List Value := O.flatMap FC.cells
theorem flatO_append (O O' : List FC) : flatO (O ++ O') = flatO O ++ flatO O' := List.flatMap_append
theorem flatO_one (o : FC) : flatO [o] = o.cells := by simp [flatO]
theorem FC.len {d : Nat} {w : World} {o : FC} (h : o.ok d w) : o.cells.length = 6 := by simp [FC.cells, rep_len h.2]
theorem flatO_get {d : Nat} {w : World} : ∀ {O : List FC} {i : Nat} {o : FC}, (∀ o ∈ O, o.ok d w) → O[i]? = some o → ∀ j, j < 6 → (flatO O)[i * 6 + j]? = o.cells[j]?
  | [], i, o, _, h, _, _ => by simp at h
  | p :: O, 0, o, hk, h, j, hj => by
    simp at h; subst h
    have := FC.len (hk p (by simp))
    rw [flatO, List.flatMap_cons, List.getElem?_append_left (by omega)]; simp
  | p :: O, i + 1, o, hk, h, j, hj => by
    have h1 := FC.len (hk p (by simp))
    have ih := flatO_get (O := O) (fun q hq => hk q (by simp [hq])) (show O[i]? = some o by simpa using h) j hj
    rw [flatO, List.flatMap_cons, List.getElem?_append_right (by omega), h1, show (i + 1) * 6 + j - 6 = i * 6 + j by omega]
    exact ih
/-- A row of fields that a call owns is a list of fields. -/
theorem own_fields {d base : Nat} {w wr : World} {t : Value} {O : List FC} (h : wr.ownsRow base 74 6 t O.length (flatO O)) (hk : ∀ o ∈ O, o.ok d w) (hb : Below w.heap.size w wr) :
    ∃ af cf, t = .slice af O.length cf ∧ FAt d wr (O.map (·.1)) af := by
  rcases h.2 with ⟨rfl, h0⟩ | ⟨g, cap, cur, rfl, _, hg, _⟩
  · refine ⟨none, 0, by rw [h0], fun i q hq => ?_⟩
    have : O = [] := List.eq_nil_of_length_eq_zero h0
    subst this; simp at hq
  · refine ⟨_, cap, rfl, fun i q hq => ?_⟩
    rw [List.getElem?_map, Option.map_eq_some_iff] at hq
    obtain ⟨o, ho, rfl⟩ := hq
    have hi := (List.getElem?_eq_some_iff.1 ho).1
    have ok := hk o (List.mem_of_getElem? ho)
    have cell : ∀ j, j < 6 → wr.cell? ⟨g, i * 6 + j, none⟩ = o.cells[j]? := fun j hj => by
      rw [h.cellAt _ (by omega), flatO_get hk ho j hj]
    refine ⟨g, 0, o.2, rfl, (Array.getElem?_eq_some_iff.1 hg).1, ok.1, ?_, fun j c hc => ?_, ok.2.later hb⟩
    · rw [Nat.zero_add]; exact cell 0 (by omega)
    · have hj := (List.getElem?_eq_some_iff.1 hc).1
      rw [rep_len ok.2] at hj
      have := cell (1 + j) (by omega)
      rw [Nat.zero_add, Nat.add_assoc, this, Nat.add_comm 1 j]
      simpa [FC.cells] using hc
theorem news_at {w : World} {cells : Array Value} {vs : List Value} {e : TypeId} (hx : cells = vs.toArray) (j : Nat) (u : Value) (h : vs[j]? = some u) : (w.alloc (.cells cells e)).cell? ((⟨w.heap.size, 0, none⟩ : Addr).add j) = some u := by
  subst hx
  rw [Lib.add_plain, World.cell?_alloc_new]; simpa using h
/-- How far setting has come. -/
structure Laying (d : Nat) (w wb : World) (name : ByteArray) (x : V) (f : List (ByteArray × V)) (t : Value) (laid : Bool) (j : Nat) (wr : World) (O : List FC) : Prop where
  own : wr.ownsRow wb.heap.size 74 6 t O.length (flatO O)
  ok : ∀ o ∈ O, o.ok d w
  below : Below wb.heap.size wb wr
  eq : O.map (·.1) ++ rsetF name x (f.drop j) laid = rsetF name x f false
  len : O.length ≤ j + 1
  len0 : laid = false → O.length ≤ j
end Go.Proofs.YtflcibmjblioaaaGreatDoor

/-
  A field that is set: the document's own answer, walked.
-/
namespace Go.Proofs.YtflcibmjblioaaaGreatDoor
open Go.RowKit
set_option maxRecDepth 100000

theorem Laying.grow {d : Nat} {w wb : World} {name : ByteArray} {x : V} {f : List (ByteArray × V)} {t t' : Value} {laid laid' : Bool} {j j' : Nat} {wr w2 : World} {O : List FC} (h : Laying d w wb name x f t laid j wr O) (o : FC) (ho : o.ok d w) {ob : Obj}
    (hown : w2.ownsRow wb.heap.size 74 6 t' (O.length + 1) (flatO O ++ o.cells)) (hg : (wr.alloc ob).grownBy w2 t.ownBlock) (he : O.map (·.1) ++ [o.1] ++ rsetF name x (f.drop j') laid' = rsetF name x f false) (hl : O.length + 1 ≤ j' + 1) (hl0 : laid' = false → O.length + 1 ≤ j') : Laying d w wb name x f t' laid' j' w2 (O ++ [o]) := by
  refine ⟨?_, ?_, ?_, ?_, ?_, ?_⟩
  · rw [List.length_append, flatO_append, flatO_one]; exact hown
  · intro p hp
    rcases List.mem_append.1 hp with hp | hp
    · exact h.ok p hp
    · rw [List.mem_singleton.1 hp]; exact ho
  · exact (h.below.alloc h.below.size _).grown hg (by have := h.below.size; simp; omega) (fun k hk => (h.own.lt k hk).1)
  · rw [List.map_append]; exact he
  · rw [List.length_append]; exact hl
  · intro h; rw [List.length_append]; exact hl0 h
theorem ownsRow_setRow_below {w : World} {base : Nat} {e : TypeId} {size : Nat} {v : Value} {n : Nat} {xs : List Value} (h : w.ownsRow base e size v n xs) {b : Nat} (hb : b < base) (cs : Array Value) : (w.setRow b cs).ownsRow base e size v n xs :=
  World.ownsRow.kept h (row := some b) ⟨rfl, rfl, rfl, by simp [World.setRow], fun k _ hk => setRow_other w b k _ (fun e => hk (by rw [e]))⟩ (by
    cases hv : v.ownBlock with
    | none => exact .inl rfl
    | some g => exact .inr (fun e => by cases e; have := (h.lt b hv).1; omega))
end Go.Proofs.YtflcibmjblioaaaGreatDoor
