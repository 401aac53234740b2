/-
  Bytes that a call owns, also where they were made of a string (their row then bears a mark behind its last cell): what appending to them does.
-/
import Derived.Test.YtggojafapieliabDoorAp
import Derived.Laws.IdiomStrings
import Derived.Lib.FrozenHead
namespace Go.Proofs.YtggojafapieliabDoor
open Go.RowKit
set_option maxRecDepth 100000

/-- Bytes that a call owns; no cell behind them is frozen. -/
def OwnM (w : World) (B : Nat) (v : Value) (xs : List UInt8) : Prop :=
  ∃ g cap cur fz, v = .slice (some ⟨g, 0, none⟩) xs.length cap ∧ B ≤ g ∧ w.heap[g]? = some (.cells cur 5 fz) ∧ (∀ j, xs.length ≤ j → j < cur.size → ¬ (fz.1 ≤ j ∧ j < fz.2)) ∧ xs.length ≤ cap ∧ cap ≤ maxLen ∧ cur.size = cap ∧ cur.toList.take xs.length = xs.map byteV
theorem OwnM.lt {w : World} {B : Nat} {v : Value} {xs : List UInt8} (h : OwnM w B v xs) : ∀ g, v.ownBlock = some g → B ≤ g ∧ g < w.heap.size := by
  intro g hg
  obtain ⟨g', cap, cur, fz, rfl, h2, h3, _⟩ := h
  simp [Value.ownBlock] at hg
  subst hg
  exact ⟨h2, (Array.getElem?_eq_some_iff.1 h3).1⟩
theorem OwnM.later {w w' : World} {B : Nat} {v : Value} {xs : List UInt8} (h : OwnM w B v xs) (hb : Below w.heap.size w w') : OwnM w' B v xs := by
  obtain ⟨g, cap, cur, fz, h1, h2, h3, r⟩ := h
  exact ⟨g, cap, cur, fz, h1, h2, (hb.block g (Array.getElem?_eq_some_iff.1 h3).1).trans h3, r⟩
theorem OwnM.alloc {w : World} {B : Nat} {v : Value} {xs : List UInt8} (h : OwnM w B v xs) (o : Obj) : OwnM (w.alloc o) B v xs := h.later ((Below.refl _ _).alloc (Nat.le_refl _) o)
theorem OwnM.drew {w : World} {B : Nat} {v : Value} {xs : List UInt8} (h : OwnM w B v xs) : OwnM w.drew B v xs := h
theorem OwnM.cells {w : World} {B : Nat} {v : Value} {xs : List UInt8} (h : OwnM w B v xs) {g : Nat} (hg : v.ownBlock = some g) : ∀ j u, (xs.map byteV)[j]? = some u → w.cell? ((⟨g, 0, none⟩ : Addr).add j) = some u := by
  intro j u hu
  obtain ⟨g', cap, cur, fz, rfl, _, h3, _, _, _, _, h8⟩ := h
  simp [Value.ownBlock] at hg
  subst hg
  rw [Lib.add_plain, Nat.zero_add, cell_of_row w g' j cur _ fz h3]
  rw [← h8, List.getElem?_take] at hu
  split at hu
  · simpa using hu
  · cases hu
theorem OwnM.below {w w' : World} {B : Nat} {v v' : Value} {xs : List UInt8} (h : OwnM w B v xs) (hg : Grew v w v' w') (hB : B ≤ w.heap.size) : Below B w w' :=
  (Below.refl _ _).grown hg.by_ hB (fun q hq => (h.lt q hq).1)
/-- Cells that are written where nothing is frozen. -/
theorem store_free (g o : Nat) (t : TypeId) (fz : Nat × Nat) : ∀ (vs : List Value) (i : Nat) (cur : Array Value) (w : World), w.heap[g]? = some (.cells cur t fz) → (∀ j, o + i ≤ j → j < cur.size → ¬ (fz.1 ≤ j ∧ j < fz.2)) → o + i + vs.length ≤ cur.size → (∀ v ∈ vs, v.oneCell' = true) →
    (storeCells ⟨g, o, none⟩ vs i).run Tryd.prog w = .ok () (w.setRow g (cur.toList.take (o + i) ++ vs ++ cur.toList.drop (o + i + vs.length)).toArray) := by
  intro vs
  induction vs with
  | nil =>
    intro i cur w hg _ _ _
    simp only [storeCells, List.append_nil, List.length_nil, Nat.add_zero, List.take_append_drop, Array.toArray_toList]
    rw [setRow_self w g cur t fz hg]
    rfl
  | cons v rest ih =>
    intro i cur w hg hfz hl h1
    have hl' : o + i + (rest.length + 1) ≤ cur.size := hl
    have hi : o + i < cur.size := by omega
    have hcell : w.cell? ⟨g, o + i, none⟩ = some cur[o + i] := by simp [World.cell?, hg, hi]
    have hfro : w.frozen? ⟨g, o + i, none⟩ = false := by
      have q := hfz (o + i) (Nat.le_refl _) hi
      obtain ⟨lo, up⟩ := fz
      simp only [World.frozen?, hg, Bool.and_eq_false_iff, decide_eq_false_iff_not]
      simp only at q
      omega
    have hst : (store ((⟨g, o, none⟩ : Addr).add i) v).run Tryd.prog w = .ok () (w.setRow g (cur.setIfInBounds (o + i) v)) := by
      rw [show (⟨g, o, none⟩ : Addr).add i = ⟨g, o + i, none⟩ by unfold Addr.add; split <;> simp_all, run_store _ w _ v _ (h1 v (by simp)), hcell]
      simp [hfro, setCell_eq_setRow w g (o + i) cur t fz v hg]
    have q := ih (i + 1) (cur.setIfInBounds (o + i) v) (w.setRow g (cur.setIfInBounds (o + i) v)) (setRow_heap w g cur _ t _ hg) (fun j h2 h3 => hfz j (by omega) (by simpa using h3)) (by simp; omega) (fun x hx => h1 x (by simp [hx]))
    simp only [storeCells, Sem.run_bind, hst, Result.andThen_ok, q, setRow_setRow]
    congr 3
    have e := list_seg_step cur.toList (o + i) v rest (by simp; omega)
    simpa [Array.toList_setIfInBounds, Nat.add_assoc] using e
theorem byte_one (ys : List UInt8) : ∀ u ∈ ys.map byteV, u.oneCell' = true := fun u hu => by
  obtain ⟨b, _, rfl⟩ := List.mem_map.1 hu
  rfl
theorem strCells_eq (s : ByteArray) : Lib.strCells s = s.data.toList.map byteV := rfl
/-- What is there behind an appending in the row itself. -/
theorem ownM_room {w : World} {B : Nat} {xs ys : List UInt8} {g cap : Nat} {cur : Array Value} {fz : Nat × Nat} (h2 : B ≤ g) (h3 : w.heap[g]? = some (.cells cur 5 fz)) (h4 : ∀ j, xs.length ≤ j → j < cur.size → ¬ (fz.1 ≤ j ∧ j < fz.2)) (h6 : cap ≤ maxLen) (h7 : cur.size = cap) (h8 : cur.toList.take xs.length = xs.map byteV) (hroom : xs.length + ys.length ≤ cap) :
    OwnM (w.setRow g (cur.toList.take xs.length ++ ys.map byteV ++ cur.toList.drop (xs.length + ys.length)).toArray) B (.slice (some ⟨g, 0, none⟩) (xs.length + ys.length) cap) (xs ++ ys) ∧ Grew (.slice (some ⟨g, 0, none⟩) xs.length cap) w (.slice (some ⟨g, 0, none⟩) (xs.length + ys.length) cap) (w.setRow g (cur.toList.take xs.length ++ ys.map byteV ++ cur.toList.drop (xs.length + ys.length)).toArray) := by
  have hs : (cur.toList.take xs.length ++ ys.map byteV ++ cur.toList.drop (xs.length + ys.length)).toArray.size = cap := by
    simp only [List.size_toArray, List.length_append, List.length_take, List.length_drop, Array.length_toList, List.length_map]
    omega
  refine ⟨⟨g, cap, _, fz, by rw [List.length_append], h2, setRow_heap w g cur _ _ _ h3, ?_, by rw [List.length_append]; omega, h6, hs, ?_⟩, ⟨⟨rfl, rfl, rfl, by simp, fun k _ hk => setRow_other w g k _ (fun e => hk (by simp [Value.ownBlock, e]))⟩, .inl rfl⟩⟩
  · intro j q1 q2
    rw [hs] at q2
    rw [List.length_append] at q1
    exact h4 j (by omega) (by omega)
  · rw [h8, List.map_append, List.length_append]
    have e : (xs.map byteV ++ ys.map byteV).length = xs.length + ys.length := by simp
    rw [← e]
    exact List.take_left
theorem ownM_grow {w : World} {B : Nat} {xs ys : List UInt8} {g cap : Nat} (hB : B ≤ w.heap.size) (h63 : xs.length + ys.length ≤ maxLen) :
    OwnM (w.drew.alloc (.cells ((xs.map byteV).toArray ++ (ys.map byteV).toArray ++ Builtin.zeroCells (Value.int .u8 0).cells (grownCap w (xs.length + ys.length) cap 5 - (xs.length + ys.length))) 5)) B (.slice (some ⟨w.heap.size, 0, none⟩) (xs.length + ys.length) (grownCap w (xs.length + ys.length) cap 5)) (xs ++ ys) ∧
    Grew (.slice (some ⟨g, 0, none⟩) xs.length cap) w (.slice (some ⟨w.heap.size, 0, none⟩) (xs.length + ys.length) (grownCap w (xs.length + ys.length) cap 5)) (w.drew.alloc (.cells ((xs.map byteV).toArray ++ (ys.map byteV).toArray ++ Builtin.zeroCells (Value.int .u8 0).cells (grownCap w (xs.length + ys.length) cap 5 - (xs.length + ys.length))) 5)) := by
  have hge := grownCap_ge w (xs.length + ys.length) cap 5
  have hcm := grownCap_le_maxLen w (xs.length + ys.length) cap 5 h63
  refine ⟨⟨w.heap.size, _, _, (0, 0), by rw [List.length_append], hB, heap_alloc_new w.drew _, fun j _ _ q => by simp at q, by rw [List.length_append]; exact hge, hcm, ?_, ?_⟩, ⟨⟨rfl, rfl, rfl, by simp, fun k hk _ => heap_alloc_old w.drew _ hk⟩, .inr ⟨_, rfl, Nat.le_refl _⟩⟩⟩
  · have hz1 : (Value.int IntKind.u8 0).cells.size = 1 := rfl
    simp only [Array.size_append, List.size_toArray, size_zeroCells, hz1, List.length_map]
    omega
  · simp only [Array.toList_append, List.append_assoc]
    rw [← List.append_assoc, ← List.map_append]
    have e : (xs ++ ys).length = ((xs ++ ys).map byteV).length := by simp
    rw [e]
    exact List.take_left
theorem run_appMs {W : World} (B : Nat) (ty : TypeId) (v : Value) (xs : List UInt8) (hown : OwnM W B v xs) (s : ByteArray) (hlim : xs.length + s.size ≤ 1000000000) (hB : B ≤ W.heap.size) :
    ∃ v' w', (Builtin.append_ #[73, 9] ty #[v, .string s]).run Tryd.prog W = .ok v' w' ∧ OwnM w' B v' (xs ++ s.data.toList) ∧ Grew v W v' w' := by
  obtain ⟨i0, hi, hz0, hz1, hz2⟩ := info_parts info5
  have hsl : s.data.toList.length = s.size := by simp
  obtain ⟨g, cap, cur, fz, rfl, h2, h3, h4, h5, h6, h7, h8⟩ := hown
  have holds := OwnM.cells (v := .slice (some ⟨g, 0, none⟩) xs.length cap) ⟨g, cap, cur, fz, rfl, h2, h3, h4, h5, h6, h7, h8⟩ (g := g) rfl
  by_cases hroom : xs.length + s.size ≤ cap
  · have q := ownM_room (ys := s.data.toList) h2 h3 h4 h6 h7 h8 (by rw [hsl]; exact hroom)
    refine ⟨_, _, ?_, q⟩
    have hf := Lib.run_firstCells_string (P := Tryd.prog) W 1 s
    have hst := store_free g xs.length 5 fz (Lib.strCells s) 0 cur W h3 (by simpa using h4) (by rw [Lib.strCells_length]; omega) (Lib.strCells_oneCell s)
    simp only [Nat.add_zero, Lib.strCells_length] at hst
    rw [strCells_eq] at hst hf
    simp [Builtin.append_, run_underlying Tryd.underlying73, run_underlying Tryd.underlying9, sizeOf, typeInfo, hi, hz1, Builtin.lenOf, hroom, hf, Addr.add_lit, hst]
  · have q := ownM_grow (w := W) (B := B) (xs := xs) (ys := s.data.toList) (g := g) (cap := cap) hB (by unfold maxLen; rw [hsl]; omega)
    refine ⟨_, _, ?_, q⟩
    have hr := Lib.run_append_grow_string (P := Tryd.prog) W 73 9 ty 5 i0 (.int .u8 0) Tryd.underlying73 Tryd.underlying9 hi hz0 ⟨g, 0, none⟩ xs.length cap (xs.map byteV) (by rw [hz1]; simp) holds s (by omega) (by omega) (by rw [hz2]; exact growslice_fits (by omega) (by omega))
    rw [hsl]
    exact hr
theorem run_appM {W : World} (B : Nat) (ty : TypeId) (v : Value) (xs : List UInt8) (hown : OwnM W B v xs) (k : Nat) (ys : List UInt8) (c : Nat) (fk : Nat × Nat) (hg : W.heap[k]? = some (.cells (ys.map byteV).toArray 5 fk)) (hlim : xs.length + ys.length ≤ 1000000000) (hB : B ≤ W.heap.size) :
    ∃ v' w', (Builtin.append_ #[73, 73] ty #[v, .slice (some ⟨k, 0, none⟩) ys.length c]).run Tryd.prog W = .ok v' w' ∧ OwnM w' B v' (xs ++ ys) ∧ Grew v W v' w' := by
  obtain ⟨i0, hi, hz0, hz1, hz2⟩ := info_parts info5
  have hnews : ∀ j u, (ys.map byteV)[j]? = some u → W.cell? ((⟨k, 0, none⟩ : Addr).add j) = some u := fun j u hj => by
    rw [Lib.add_plain, Nat.zero_add, cell_of_row W k _ _ _ _ hg]; simpa using hj
  obtain ⟨g, cap, cur, fz, rfl, h2, h3, h4, h5, h6, h7, h8⟩ := hown
  have holds := OwnM.cells (v := .slice (some ⟨g, 0, none⟩) xs.length cap) ⟨g, cap, cur, fz, rfl, h2, h3, h4, h5, h6, h7, h8⟩ (g := g) rfl
  by_cases hroom : xs.length + ys.length ≤ cap
  · have q := ownM_room (ys := ys) h2 h3 h4 h6 h7 h8 hroom
    refine ⟨_, _, ?_, q⟩
    have hf := run_firstCells_some (P := Tryd.prog) W 1 ys.length ⟨k, 0, none⟩ ys.length c (ys.map byteV) (by simp) hnews
    have hst := store_free g xs.length 5 fz (ys.map byteV) 0 cur W h3 (by simpa using h4) (by rw [List.length_map]; omega) (byte_one ys)
    simp only [Nat.add_zero, List.length_map] at hst
    simp [Builtin.append_, run_underlying Tryd.underlying73, sizeOf, typeInfo, hi, hz1, Builtin.lenOf, hroom, hf, Addr.add_lit, hst]
  · have q := ownM_grow (w := W) (B := B) (xs := xs) (ys := ys) (g := g) (cap := cap) hB (by unfold maxLen; omega)
    refine ⟨_, _, ?_, q⟩
    exact run_append_grow (P := Tryd.prog) W 73 ty 5 i0 (.int .u8 0) Tryd.underlying73 hi hz0 ⟨g, 0, none⟩ xs.length cap (xs.map byteV) (by rw [hz1]; simp) holds ⟨k, 0, none⟩ ys.length c (ys.map byteV) (by rw [hz1]; simp) hnews (by omega) (by omega) (by rw [hz2]; exact growslice_fits (by omega) (by omega))
section
variable {W : World} {ops : Array Oper} {rest : List Oper} {o : Oper} {a : Act} {Q : Exit → Act → World → Prop}
theorem wpAppM (hgd : o.guard = none) (s x : Operand) (ho : o.op = .call { callee := .builtin .append, args := #[s, x], argTypes := #[73, 73] })
    (B : Nat) (v : Value) (xs : List UInt8) (hs : a.eval s = v) (hown : OwnM W B v xs) (g : Nat) (ys : List UInt8) (m c : Nat) (hx : a.eval x = .slice (some ⟨g, 0, none⟩) m c) (fz : Nat × Nat)
    (hm : ys.length = m) (cells : Array Value) (hc : cells = (ys.map byteV).toArray) (hg : W.heap[g]? = some (.cells cells 5 fz)) (hlim : xs.length + m ≤ 1000000000) (hB : B ≤ W.heap.size)
    (h : ∀ v' w', OwnM w' B v' (xs ++ ys) → Grew v W v' w' → wpList Tryd.prog ops Q rest (a.put o.dst v') w') :
    wpList Tryd.prog ops Q (o :: rest) a W := by
  subst hm
  subst hc
  obtain ⟨v', w', hr, h2, h3⟩ := run_appM (W := W) B o.type v xs hown g ys c fz hg hlim hB
  refine wpList_plain hgd fun K hK => ?_
  unfold Oper.wp execOp
  simp only [ho, resolve, invoke, builtin, Sem.run_bind, Sem.run_pure, Result.andThen_ok, List.map_toArray, List.map_cons, List.map_nil, hs, hx, hr]
  exact hK _ _ (h v' w' h2 h3)
theorem stepAppM {K : Act → World → Prop} {E : Prop} (hgd : o.guard = none) (s x : Operand) (ho : o.op = .call { callee := .builtin .append, args := #[s, x], argTypes := #[73, 73] })
    (B : Nat) (v : Value) (xs : List UInt8) (hs : a.eval s = v) (hown : OwnM W B v xs) (g : Nat) (ys : List UInt8) (m c : Nat) (hx : a.eval x = .slice (some ⟨g, 0, none⟩) m c) (fz : Nat × Nat)
    (hm : ys.length = m) (cells : Array Value) (hc : cells = (ys.map byteV).toArray) (hg : W.heap[g]? = some (.cells cells 5 fz)) (hlim : xs.length + m ≤ 1000000000) (hB : B ≤ W.heap.size)
    (h : ∀ v' w', OwnM w' B v' (xs ++ ys) → Grew v W v' w' → K (a.put o.dst v') w') :
    if Region.wanted o (yielded ops a.tmps) = true then Oper.wp Tryd.prog o a W K Q else E := by
  have hw : Region.wanted o (yielded ops a.tmps) = true := by simp [Region.wanted, hgd]
  rw [if_pos hw]
  subst hm
  subst hc
  obtain ⟨v', w', hr, h2, h3⟩ := run_appM (W := W) B o.type v xs hown g ys c fz hg hlim hB
  unfold Oper.wp execOp
  simp only [ho, resolve, invoke, builtin, Sem.run_bind, Sem.run_pure, Result.andThen_ok, List.map_toArray, List.map_cons, List.map_nil, hs, hx, hr]
  exact h v' w' h2 h3
theorem wpAppMs (hgd : o.guard = none) (sl x : Operand) (ho : o.op = .call { callee := .builtin .append, args := #[sl, x], argTypes := #[73, 9] })
    (B : Nat) (v : Value) (xs : List UInt8) (hs : a.eval sl = v) (hown : OwnM W B v xs) (s : ByteArray) (hx : a.eval x = .string s) (ys : List UInt8) (hy : s.data.toList = ys)
    (hlim : xs.length + s.size ≤ 1000000000) (hB : B ≤ W.heap.size)
    (h : ∀ v' w', OwnM w' B v' (xs ++ ys) → Grew v W v' w' → wpList Tryd.prog ops Q rest (a.put o.dst v') w') :
    wpList Tryd.prog ops Q (o :: rest) a W := by
  subst hy
  obtain ⟨v', w', hr, h2, h3⟩ := run_appMs (W := W) B o.type v xs hown s hlim hB
  refine wpList_plain hgd fun K hK => ?_
  unfold Oper.wp execOp
  simp only [ho, resolve, invoke, builtin, Sem.run_bind, Sem.run_pure, Result.andThen_ok, List.map_toArray, List.map_cons, List.map_nil, hs, hx, hr]
  exact hK _ _ (h v' w' h2 h3)
end
/-- Bytes made of a string. -/
theorem run_convM (W : World) (s : ByteArray) (hs : s.size ≤ 1000000000) : ∃ v' w', (convert 9 73 (.string s)).run Tryd.prog W = .ok v' w' ∧ OwnM w' W.heap.size v' s.data.toList ∧ Below W.heap.size W w' := by
  have hr := run_bytes_of_string (P := Tryd.prog) W 9 73 5 s Tryd.underlying9 Tryd.underlying73 Tryd.underlying5
  have hsl : s.data.toList.length = s.size := by simp
  have hge := grownCap_ge W s.size 0 5
  have hcm := grownCap_le_maxLen W s.size 0 5 (by unfold maxLen; omega)
  have hbs : (bytesRow s (grownCap W s.size 0 5)).size = grownCap W s.size 0 5 := by
    unfold bytesRow
    have : s.data.size = s.size := rfl
    simp [this]; omega
  refine ⟨_, _, hr, ⟨W.heap.size, _, _, _, by rw [hsl], Nat.le_refl _, heap_alloc_new W.drew _, ?_, by rw [hsl]; exact hge, hcm, hbs, ?_⟩, (Below.refl _ W).drew.alloc (Nat.le_refl _) _⟩
  · intro j _ h2 h3
    simp only at h3
    omega
  · rw [hsl]
    unfold bytesRow
    simp only [Array.toList_append, Array.toList_map]
    have e : s.size = (s.data.toList.map fun b => Value.int .u8 (b.toNat : Int)).length := by simp
    rw [e, List.take_left]
    rfl
/-- Bytes as a string. -/
theorem ownM_conv {w : World} {B : Nat} {v : Value} {xs : List UInt8} (h : OwnM w B v xs) : (convert 73 9 v).run Tryd.prog w = .ok (.string ⟨xs.toArray⟩) w := by
  have hc := fun g => h.cells (g := g)
  obtain ⟨g, cap, cur, fz, rfl, _⟩ := h
  refine conv_row rfl (fun k hk => ?_)
  exact hc g rfl k _ (by simp [byteV, hk])
end Go.Proofs.YtggojafapieliabDoor
