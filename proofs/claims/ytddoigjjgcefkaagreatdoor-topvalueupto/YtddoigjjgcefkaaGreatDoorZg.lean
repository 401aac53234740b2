/-
  Joined: Ze, Zd, Zg.
-/
import Derived.Test.YtddoigjjgcefkaaGreatDoorZb
import Derived.Test.YtddoigjjgcefkaaGreatDoorYn
import Derived.Test.YtddoigjjgcefkaaGreatDoorYv

/-
  Reading, the document's answer: lists.
-/
namespace Go.Proofs.YtddoigjjgcefkaaGreatDoor
open Go.RowKit
set_option maxRecDepth 100000

/-- What a call of the answer's that reads a value says. -/
def SaidR (w : World) (d : Nat) (r : Rd) (e : Ending) (w' : World) : Prop :=
  ∃ (k n : Int) (t : ByteArray) (a1 a2 : Option Addr) (l1 c1 l2 c2 J : Nat), e = .returned (.tuple #[.agg #[.int .i64 k, .int .i64 n, .string t, .slice a1 l1 c1, .slice a2 l2 c2], .int .i64 (J : Nat), .int .i64 r.2.1]) ∧ Below w.heap.size w w' ∧
    Hid (r.2.1 = 0 → J = r.2.2 ∧ RepIn (fun b => w.heap.size ≤ b ∧ b < w'.heap.size) d w' r.1 [.int .i64 k, .int .i64 n, .string t, .slice a1 l1 c1, .slice a2 l2 c2])
/-- A list that the answer is reading: its result's block, the list's block, its row, the values. -/
structure RowA (w wr : World) (d : Nat) (t : Value) (O : List VC) : Prop where
  below : Below w.heap.size w wr
  box : At wr w.heap.size 26 (vc 0 0 ⟨#[]⟩)
  vbox : At wr (w.heap.size + 1) 26 #[.int .i64 5, .int .i64 0, .string ⟨#[]⟩, t, .slice none 0 0]
  own : wr.ownsRow (w.heap.size + 2) 26 5 t O.length (flatV O)
  reps : ∀ o ∈ O, RepIn (Room (w.heap.size + 2) wr t) d wr o.1 o.2
theorem RowA.size {w a : World} {d : Nat} {t : Value} {O : List VC} (h : RowA w a d t O) : w.heap.size + 2 ≤ a.heap.size := At.lt h.vbox
theorem RowA.later {w a b : World} {d : Nat} {t : Value} {O : List VC} (h : RowA w a d t O) (m : Below a.heap.size a b) : RowA w b d t O := by
  have hs := h.size
  refine ⟨h.below.trans (m.mono (by omega)), At.later h.box m, At.later h.vbox m, ?_, fun o ho => ?_⟩
  · refine World.ownsRow.kept h.own (row := none) ⟨m.os, m.tape, m.output, m.size, fun k hk _ => m.block k hk⟩ ?_
    cases hv : t.ownBlock with
    | none => exact .inl rfl
    | some g => exact .inr (by simp)
  · exact ((h.reps o ho).agree m.size fun b hb => m.block b hb.2.1).mono fun b hb => ⟨hb.1, Nat.lt_of_lt_of_le hb.2.1 m.size, hb.2.2⟩
theorem RowA.grow {w a b : World} {d : Nat} {t t' : Value} {O : List VC} {x : V} {c : List Value} {o1 o2 : Obj} {w2 : World} (h : RowA w a d t O) (m : Below a.heap.size a b)
    (hx : RepIn (fun g => a.heap.size ≤ g ∧ g < b.heap.size) d b x c) (hown : w2.ownsRow (w.heap.size + 2) 26 5 t' (O.length + 1) (flatV O ++ c)) (hg : ((b.alloc o1).alloc o2).grownBy w2 t.ownBlock)
    (hat : t'.ownBlock = t.ownBlock ∨ t'.ownBlock = some ((b.alloc o1).alloc o2).heap.size) : RowA w (w2.setCell ⟨w.heap.size + 1, 3, none⟩ t') d t' (O ++ [(x, c)]) := by
  have hb := h.later m
  have hbs := hb.size
  have has := h.size
  have hsz := hg.size
  have hsz2 : b.heap.size + 2 ≤ w2.heap.size := by simp at hsz; omega
  have same : ∀ k, k < b.heap.size → some k ≠ t.ownBlock → w2.heap[k]? = b.heap[k]? := fun k hk hne => by
    rw [hg.block k (by simp; omega) hne, heap_alloc_old _ _ (by simp; omega), heap_alloc_old _ _ hk]
  have low : ∀ k, k < w.heap.size + 2 → some k ≠ t.ownBlock := fun k hk e => by
    have := (hb.own.lt k e.symm).1; omega
  have hW : Below w.heap.size w w2 := ⟨hg.os.trans hb.below.os, hg.tape.trans hb.below.tape, hg.output.trans hb.below.output, by omega, fun k hk => by
    rw [same k (by omega) (low k (by omega))]; exact hb.below.block k hk⟩
  have sz : (w2.setCell ⟨w.heap.size + 1, 3, none⟩ t').heap.size = w2.heap.size := by simp [World.setCell]
  have oth : ∀ k, k ≠ w.heap.size + 1 → (w2.setCell ⟨w.heap.size + 1, 3, none⟩ t').heap[k]? = w2.heap[k]? := fun k hk => Below.heap_setCell _ _ _ _ hk
  refine ⟨hW.setCell (p := ⟨w.heap.size + 1, 3, none⟩) (by simp) _, ?_, ?_, ?_, ?_⟩
  · exact (oth _ (by omega)).trans ((same _ (by omega) (low _ (by omega))).trans hb.box)
  · have hv : At w2 (w.heap.size + 1) 26 #[.int .i64 5, .int .i64 0, .string ⟨#[]⟩, t, .slice none 0 0] := (same _ (by omega) (low _ (by omega))).trans hb.vbox
    exact heap_setCell_same w2 _ 3 _ _ t' hv
  · rw [List.length_append, flatV_append, flatV_one]
    refine World.ownsRow.kept hown (row := some (w.heap.size + 1)) ⟨rfl, rfl, rfl, by rw [sz]; exact Nat.le_refl _, fun k hk hne => oth k (fun e => hne (by rw [e]))⟩ ?_
    cases hv : t'.ownBlock with
    | none => exact .inl rfl
    | some g => exact .inr (fun e => by cases e; have := (hown.lt _ hv).1; omega)
  · intro o ho
    have new : ∀ k, k < b.heap.size → some k ≠ t.ownBlock → some k ≠ t'.ownBlock := fun k hk hne => by
      rcases hat with e | e
      · rw [e]; exact hne
      · rw [e]; intro e'; injection e' with e'; simp at e'; omega
    rcases List.mem_append.1 ho with ho | ho
    · refine ((hb.reps o ho).agree (by rw [sz]; omega) fun k hk => ?_).mono fun k hk => ⟨hk.1, by rw [sz]; have := hk.2.1; omega, new k hk.2.1 hk.2.2⟩
      rw [oth k (by have := hk.1; omega)]; exact same k hk.2.1 hk.2.2
    · rw [List.mem_singleton.1 ho]
      have apart : ∀ k, a.heap.size ≤ k → some k ≠ t.ownBlock := fun k hk e => by have := (h.own.lt k e.symm).2; omega
      refine (hx.agree (by rw [sz]; omega) fun k hk => ?_).mono fun k hk => ⟨by have := hk.1; omega, by rw [sz]; have := hk.2; omega, new k hk.2 (apart k hk.1)⟩
      rw [oth k (by have := hk.1; omega)]; exact same k hk.2 (apart k hk.1)
theorem RowA.rep {w a : World} {d : Nat} {t : Value} {O : List VC} (h : RowA w a d t O) (hl : O.length ≤ 1000) :
    RepIn (fun b => w.heap.size + 2 ≤ b ∧ b < a.heap.size) (d + 1) a ⟨5, 0, eB, O.map (·.1), []⟩ [.int .i64 5, .int .i64 0, .string eB, t, .slice none 0 0] :=
  repIn_list h.own h.reps hl (fun _ hb => ⟨hb.1, hb.2.1⟩) (fun g hg => h.own.lt g hg)
theorem RowA.fill {w a : World} {d : Nat} {t : Value} {O : List VC} (h : RowA w a d t O) (hl : O.length ≤ 1000) (v0 v1 v2 v3 v4 : Value) {wf : World} (hf : wf = set5 a w.heap.size v0 v1 v2 v3 v4) :
    Below w.heap.size w wf ∧ At wf w.heap.size 26 #[v0, v1, v2, v3, v4] ∧ RepIn (fun b => w.heap.size ≤ b ∧ b < wf.heap.size) (d + 1) wf ⟨5, 0, eB, O.map (·.1), []⟩ [.int .i64 5, .int .i64 0, .string eB, t, .slice none 0 0] := by
  subst hf
  refine ⟨below_set5 h.below (Nat.le_refl _) _ _ _ _ _, At.five h.box _ _ _ _ _, ?_⟩
  refine ((h.rep hl).agree (by rw [set5_size]; exact Nat.le_refl _) fun b hb => set5_other _ _ _ _ _ _ _ (by have := hb.1; omega)).mono fun b hb => ⟨by have := hb.1; omega, by rw [set5_size]; exact hb.2⟩
theorem RowA.cells {w a : World} {d : Nat} {t : Value} {O : List VC} (h : RowA w a d t O) :
    (a.cell? ⟨w.heap.size + 1, 0, none⟩ = some (.int .i64 5) ∧ a.cell? ⟨w.heap.size + 1, 1, none⟩ = some (.int .i64 0) ∧ a.cell? ⟨w.heap.size + 1, 2, none⟩ = some (.string ⟨#[]⟩) ∧ a.cell? ⟨w.heap.size + 1, 3, none⟩ = some t ∧ a.cell? ⟨w.heap.size + 1, 4, none⟩ = some (.slice none 0 0)) ∧ a.frozen? ⟨w.heap.size + 1, 3, none⟩ = false :=
  ⟨⟨At.cell h.vbox 0, At.cell h.vbox 1, At.cell h.vbox 2, At.cell h.vbox 3, At.cell h.vbox 4⟩, At.free h.vbox 3⟩
theorem RowA.vkept {w b w2 : World} {d : Nat} {t : Value} {O : List VC} {o1 o2 : Obj} (h : RowA w b d t O) (hg : ((b.alloc o1).alloc o2).grownBy w2 t.ownBlock) :
    At w2 (w.heap.size + 1) 26 #[.int .i64 5, .int .i64 0, .string ⟨#[]⟩, t, .slice none 0 0] ∧ At w2 w.heap.size 26 (vc 0 0 ⟨#[]⟩) := by
  have hs := h.size
  have same : ∀ k, k < w.heap.size + 2 → w2.heap[k]? = b.heap[k]? := fun k hk => by
    rw [hg.block k (by simp; omega) (fun e => by have := (h.own.lt k e.symm).1; omega), heap_alloc_old _ _ (by simp; omega), heap_alloc_old _ _ (by omega)]
  exact ⟨(same _ (by omega)).trans h.vbox, (same _ (by omega)).trans h.box⟩
/-- An end of a list, in the answer's words. -/
theorem endsR_one (s : ByteArray) (j : Nat) : endsR s wEnd j = if skipP s j = s.size then (5, false, s.size) else if s.data.toList[skipP s j]? = some 93 then (0, true, skipP s j + 1) else (0, false, skipP s j) := by
  unfold endsR
  by_cases h : skipP s j = s.size
  · rw [if_pos h, if_pos h]
  · rw [if_neg h, if_neg h]
    have hb : Lib.hasPrefix (s.data.toList.drop (skipP s j)) wEnd.data.toList = decide (s.data.toList[skipP s j]? = some 93) := by
      by_cases hl : skipP s j < s.size
      · have := ahB_one (c := 93) hl
        unfold ahB at this
        rw [show wEnd.data.toList = (⟨#[93]⟩ : ByteArray).data.toList from rfl, this, rdAt_get hl]
        simp
      · rw [List.drop_eq_nil_of_le (by simp; omega), show s.data.toList[skipP s j]? = none by rw [List.getElem?_eq_none_iff]; simp; omega]
        rfl
    rw [hb]
    by_cases h9 : s.data.toList[skipP s j]? = some 93
    · rw [decide_eq_true h9, if_pos rfl, if_pos h9]; rfl
    · rw [decide_eq_false h9, if_neg (by simp), if_neg h9]
end Go.Proofs.YtddoigjjgcefkaaGreatDoor

/-
  A field that is set, by the document's answer: where the fields of the new row come from.
-/
namespace Go.Proofs.YtddoigjjgcefkaaGreatDoor
open Go.RowKit
set_option maxRecDepth 100000

/-- How far setting has come; what was laid has the property G. -/
structure LayG (G : FC → Prop) (wb : World) (name : ByteArray) (x : V) (f : List (ByteArray × V)) (t : Value) (laid : Bool) (j : Nat) (wr : World) (O : List FC) : Prop where
  own : wr.ownsRow wb.heap.size 54 6 t O.length (flatO O)
  ok : ∀ o ∈ O, G o
  below : Below wb.heap.size wb wr
  eq : O.map (·.1) ++ rsetF name x (f.drop j) laid = rsetF name x f false
  len : O.length ≤ j + 1
  len0 : laid = false → O.length ≤ j
theorem LayG.grow {G : FC → Prop} {wb : World} {name : ByteArray} {x : V} {f : List (ByteArray × V)} {t t' : Value} {laid laid' : Bool} {j j' : Nat} {wr w2 : World} {O : List FC} (h : LayG G wb name x f t laid j wr O) (o : FC) (ho : G o) {ob : Obj}
    (hown : w2.ownsRow wb.heap.size 54 6 t' (O.length + 1) (flatO O ++ o.cells)) (hg : (wr.alloc ob).grownBy w2 t.ownBlock) (he : O.map (·.1) ++ [o.1] ++ rsetF name x (f.drop j') laid' = rsetF name x f false) (hl : O.length + 1 ≤ j' + 1) (hl0 : laid' = false → O.length + 1 ≤ j') : LayG G wb name x f t' laid' j' w2 (O ++ [o]) := by
  refine ⟨?_, ?_, ?_, ?_, ?_, ?_⟩
  · rw [List.length_append, flatO_append, flatO_one]; exact hown
  · intro p hp
    rcases List.mem_append.1 hp with hp | hp
    · exact h.ok p hp
    · rw [List.mem_singleton.1 hp]; exact ho
  · exact (h.below.alloc h.below.size _).grown hg (by have := h.below.size; simp; omega) (fun k hk => (h.own.lt k hk).1)
  · rw [List.map_append]; exact he
  · rw [List.length_append]; exact hl
  · intro h; rw [List.length_append]; exact hl0 h
theorem ownsRow_base {w : World} {a b : Nat} {e : TypeId} {size : Nat} {v : Value} {n : Nat} {xs : List Value} (h : w.ownsRow b e size v n xs) (hab : a ≤ b) : w.ownsRow a e size v n xs := by
  obtain ⟨h1, h2 | ⟨g, cap, cur, r1, r2, r3⟩⟩ := h
  · exact ⟨h1, .inl h2⟩
  · exact ⟨h1, .inr ⟨g, cap, cur, r1, Nat.le_trans hab r2, r3⟩⟩
/-- What setting a field says. -/
def SetSaid (G : FC → Prop) (w : World) (v x : V) (name : ByteArray) (cs : List Value) (r : Ending) (w' : World) : Prop :=
  ∃ (al af : Option Addr) (cl cf : Nat) (O : List FC), r = .returned (.agg #[.int .i64 v.k, .int .i64 v.n, .string v.s, .slice al v.l.length cl, .slice af O.length cf]) ∧ (∃ af0 cf0, cs = [.int .i64 v.k, .int .i64 v.n, .string v.s, .slice al v.l.length cl, .slice af0 v.f.length cf0]) ∧ w'.ownsRow w.heap.size 54 6 (.slice af O.length cf) O.length (flatO O) ∧ O.map (·.1) = rsetF name x v.f false ∧ ∀ o ∈ O, G o
set_option maxHeartbeats 2000000 in
theorem rSetG {e : Nat} {w : World} {v x : V} {cs cx : List Value} (G : FC → Prop) (name : ByteArray) (hv : RepN (e + 1) w v cs) (hx : RepN (e + 1) w x cx) (hcn : v.f.length ≤ 1048576)
    (hGx : G ((name, x), cx)) (hG : ∀ (j : Nat) (q : ByteArray × V) (b off : Nat) (al : Option Addr) (cl : Nat) (cf : Nat) (c : List Value), cs = [.int .i64 v.k, .int .i64 v.n, .string v.s, .slice al v.l.length cl, .slice (some ⟨b, off, none⟩) v.f.length cf] → v.f[j]? = some q → CellsAt w b (off + j * 6 + 1) c → c.length = 5 → G (q, c)) :
    Calls Tryz.prog 87 #[.agg cs.toArray, .string name, .agg cx.toArray] w fun r w' => SetSaid G w v x name cs r w' ∧ Below w.heap.size w w' := by
  obtain ⟨iF, hiF, hf0, hf1, hf2⟩ := info_parts infoF
  obtain ⟨al, af, cl, cf, rfl, ⟨hs, hl, hf⟩, hL, hF⟩ := hv
  have HF := hid hF
  have HX := hid hGx
  have HGG := hid hG
  clear hGx hG
  obtain ⟨al2, af2, cl2, cf2, rfl, _⟩ := hx
  clear hL hF hs hl
  unfold maxLen at hf
  go_enter Tryz.func87, Tryz.ntmps87
  go_wp2_with fail
  have hbw : Below w.heap.size w (((w.alloc (.cells #[.int .i64 v.k, .int .i64 v.n, .string v.s, .slice al v.l.length cl, .slice af v.f.length cf] 26)).alloc (.cells #[.int .i64 x.k, .int .i64 x.n, .string x.s, .slice al2 x.l.length cl2, .slice af2 x.f.length cf2] 26)).alloc (.cells #[.int .i64 0, .int .i64 0, .string ⟨#[]⟩, .slice none 0 0, .slice none 0 0] 26)) := by go_grown
  have A1 := ((At.new w #[.int .i64 v.k, .int .i64 v.n, .string v.s, .slice al v.l.length cl, .slice af v.f.length cf] 26 rfl).alloc (.cells #[.int .i64 x.k, .int .i64 x.n, .string x.s, .slice al2 x.l.length cl2, .slice af2 x.f.length cf2] 26)).alloc (.cells #[.int .i64 0, .int .i64 0, .string ⟨#[]⟩, .slice none 0 0, .slice none 0 0] 26)
  have A2 := (At.new (w.alloc (.cells #[.int .i64 v.k, .int .i64 v.n, .string v.s, .slice al v.l.length cl, .slice af v.f.length cf] 26)) #[.int .i64 x.k, .int .i64 x.n, .string x.s, .slice al2 x.l.length cl2, .slice af2 x.f.length cf2] 26 (b := w.heap.size + 1) (by simp)).alloc (.cells #[.int .i64 0, .int .i64 0, .string ⟨#[]⟩, .slice none 0 0, .slice none 0 0] 26)
  have A3 := At.new ((w.alloc (.cells #[.int .i64 v.k, .int .i64 v.n, .string v.s, .slice al v.l.length cl, .slice af v.f.length cf] 26)).alloc (.cells #[.int .i64 x.k, .int .i64 x.n, .string x.s, .slice al2 x.l.length cl2, .slice af2 x.f.length cf2] 26)) #[.int .i64 0, .int .i64 0, .string ⟨#[]⟩, .slice none 0 0, .slice none 0 0] 26 (b := w.heap.size + 1 + 1) (by simp)
  generalize ((w.alloc (.cells #[.int .i64 v.k, .int .i64 v.n, .string v.s, .slice al v.l.length cl, .slice af v.f.length cf] 26)).alloc (.cells #[.int .i64 x.k, .int .i64 x.n, .string x.s, .slice al2 x.l.length cl2, .slice af2 x.f.length cf2] 26)).alloc (.cells #[.int .i64 0, .int .i64 0, .string ⟨#[]⟩, .slice none 0 0, .slice none 0 0] 26) = wb at *
  have HBW := hid hbw
  have hw1 := A1.lt
  have hw3 := A3.lt
  have HA := hid (And.intro A1 (And.intro A2 A3))
  clear hbw A1 A2 A3
  go_loopw [7, 8, 9] (fun t u i wr => ∃ (j : Nat) (laid : Bool) (O : List FC), i = .int .i64 j ∧ u = .bool laid ∧ j ≤ v.f.length ∧ LayG G wb name x v.f t laid j wr O) (fun _ _ i _ => v.f.length - (intOf i).toNat)
  case atStart => exact ⟨0, false, [], rfl, rfl, Nat.zero_le _, World.ownsRow_nil _ _ _ _, by simp, Below.refl _ _, by simp, by simp, by simp⟩
  case round =>
    obtain ⟨j, laid, O, rfl, rfl, hj, hY⟩ := hrel
    have HY := hid hY
    have hbs := hY.below.size
    have hOl := hY.len
    have hOl0 := hid hY.len0
    have m1 := (HA.out.1.later hY.below).cell
    have z1 := (HA.out.1.later hY.below).lt
    have m2 := (HA.out.2.1.later hY.below).cell
    have z2 := (HA.out.2.1.later hY.below).lt
    clear hY
    by_cases hjl : j < v.f.length
    · have hjl' : (j : Int) < v.f.length := by omega
      obtain ⟨b, off, c, rfl, hbl, hnl, hcn, hc, hr⟩ := HF.out j v.f[j] (List.getElem?_eq_getElem hjl)
      have hB0 : Below w.heap.size w wr := HBW.out.trans (HY.out.below.mono HBW.out.size)
      have hbr : b < wr.heap.size := Nat.lt_of_lt_of_le hbl hB0.size
      have hbb : b < wb.heap.size := Nat.lt_of_lt_of_le hbl HBW.out.size
      have HO := hid (show G (v.f[j], c) from HGG.out j v.f[j] b off al cl cf c rfl (List.getElem?_eq_getElem hjl) hc (rep_len hr))
      obtain ⟨k1, n1, s1, a1, l1, c1, a2, l2, c2, rfl, g0, g1, g2, g3, g4⟩ := rep_cells (hr.later hB0) (hc.later hbl hB0)
      have gn := (hB0.cell (p := ⟨b, off + j * 6, none⟩) hbl).trans hcn
      have HDR := hid (show v.f.drop j = v.f[j] :: v.f.drop (j + 1) from List.drop_eq_getElem_cons hjl)
      clear hr hc hcn hnl
      cases laid
      · cases hle : leB name v.f[j].1
        · have HLE := hid hle
          have hne : (v.f[j].1.toList == name.toList) = false := by
            cases hh : (v.f[j].1.toList == name.toList)
            · rfl
            · rw [leB_iff.2 (.inr (toList_eq (by simpa using hh)).symm)] at hle; cases hle
          have HNE := hid hne
          unfold leB at hle
          have HEa := hid (show O.map (·.1) ++ [v.f[j]] ++ rsetF name x (v.f.drop (j + 1)) false = rsetF name x v.f false by
            have h := HY.out.eq
            rw [HDR.out, rsetF, HNE.out, HLE.out] at h
            simpa using h)
          go_wp2_with (at_builtin; refine wpList_append_own _ rfl (.tmp 43) (.tmp 49) 24 rfl wb.heap.size 54 iF _ 6 96 Tryz.underlying24 hiF hf0 hf1 hf2 rfl (by decide) _ _ _ rfl (HY.out.own.alloc _) ⟨wr.heap.size, 0, none⟩ 1 1 [.string v.f[j].1, .int .i64 k1, .int .i64 n1, .string s1, .slice a1 l1 c1, .slice a2 l2 c2] rfl rfl (fun i u hi => news_at rfl i u hi) (by simp [Value.oneCell']) (by unfold maxLen; first | omega | (simp; omega)) (by first | omega | (simp; omega)) (by first | omega | (simp; omega)) ?_)
          intro va wa howna hgrowa _
          have HYa := hid (HY.out.grow _ HO.out (by simpa [FC.cells] using howna) hgrowa HEa.out (by have := hOl0.out (by first | rfl | trivial); omega) (fun _ => by have := hOl0.out (by first | rfl | trivial); omega))
          clear howna hgrowa
          go_wp2_with fail
          go_roundw
          case rel => exact ⟨j + 1, false, _, by go_num, rfl, by omega, HYa.out⟩
          case measure => simp [intOf]; omega
        · have HLE := hid hle
          cases hne : (v.f[j].1.toList == name.toList)
          all_goals
            have HNE := hid hne
            have HE1 := hid (show O.map (·.1) ++ [(name, x)] ++ rsetF name x (v.f.drop j) true = rsetF name x v.f false by
              have h := HY.out.eq
              rw [HDR.out, rsetF, HLE.out] at h
              rw [HDR.out, rsetF]
              simpa using h)
            unfold leB at hle
          · go_wp2_with (at_builtin; refine wpList_append_own _ rfl (.tmp 29) (.tmp 33) 24 rfl wb.heap.size 54 iF _ 6 96 Tryz.underlying24 hiF hf0 hf1 hf2 rfl (by decide) _ _ _ rfl (HY.out.own.alloc _) ⟨wr.heap.size, 0, none⟩ 1 1 [.string name, .int .i64 x.k, .int .i64 x.n, .string x.s, .slice al2 x.l.length cl2, .slice af2 x.f.length cf2] rfl rfl (fun i u hi => news_at rfl i u hi) (by simp [Value.oneCell']) (by unfold maxLen; first | omega | (simp; omega)) (by first | omega | (simp; omega)) (by first | omega | (simp; omega)) ?_)
            intro v2 w2 hown2 hgrow2 _
            have HY2 := hid (HY.out.grow (j' := j) (laid' := true) ((name, x), [.int .i64 x.k, .int .i64 x.n, .string x.s, .slice al2 x.l.length cl2, .slice af2 x.f.length cf2]) HX.out (by simpa [FC.cells] using hown2) hgrow2 HE1.out (by have := hOl0.out (by first | rfl | trivial); omega) (by simp))
            have hbs2 := HY2.out.below.size
            have p1 := (HA.out.1.later HY2.out.below).cell
            have p2 := (HA.out.1.later HY2.out.below).lt
            have hB2 : Below w.heap.size w w2 := HBW.out.trans (HY2.out.below.mono HBW.out.size)
            have q0 := (hB2.cell (p := ⟨b, off + j * 6 + 1, none⟩) hbl).trans ((hB0.cell (p := ⟨b, off + j * 6 + 1, none⟩) hbl).symm.trans g0)
            have q1 := (hB2.cell (p := ⟨b, off + j * 6 + 1 + 1, none⟩) hbl).trans ((hB0.cell (p := ⟨b, off + j * 6 + 1 + 1, none⟩) hbl).symm.trans g1)
            have q2 := (hB2.cell (p := ⟨b, off + j * 6 + 1 + 2, none⟩) hbl).trans ((hB0.cell (p := ⟨b, off + j * 6 + 1 + 2, none⟩) hbl).symm.trans g2)
            have q3 := (hB2.cell (p := ⟨b, off + j * 6 + 1 + 3, none⟩) hbl).trans ((hB0.cell (p := ⟨b, off + j * 6 + 1 + 3, none⟩) hbl).symm.trans g3)
            have q4 := (hB2.cell (p := ⟨b, off + j * 6 + 1 + 4, none⟩) hbl).trans ((hB0.cell (p := ⟨b, off + j * 6 + 1 + 4, none⟩) hbl).symm.trans g4)
            have qn := (hB2.cell (p := ⟨b, off + j * 6, none⟩) hbl).trans ((hB0.cell (p := ⟨b, off + j * 6, none⟩) hbl).symm.trans gn)
            have hbr2 : b < w2.heap.size := Nat.lt_of_lt_of_le hbl hB2.size
            clear hown2 hgrow2
            have HEc := hid (show (O ++ [((name, x), ([.int .i64 x.k, .int .i64 x.n, .string x.s, .slice al2 x.l.length cl2, .slice af2 x.f.length cf2] : List Value))]).map (·.1) ++ [v.f[j]] ++ rsetF name x (v.f.drop (j + 1)) true = rsetF name x v.f false by
              have h := HY2.out.eq
              rw [HDR.out, rsetF, HNE.out] at h
              simpa using h)
            go_wp2_with (at_builtin; refine wpList_append_own _ rfl (.tmp 43) (.tmp 49) 24 rfl wb.heap.size 54 iF _ 6 96 Tryz.underlying24 hiF hf0 hf1 hf2 rfl (by decide) _ _ _ rfl (HY2.out.own.alloc _) ⟨w2.heap.size, 0, none⟩ 1 1 [.string v.f[j].1, .int .i64 k1, .int .i64 n1, .string s1, .slice a1 l1 c1, .slice a2 l2 c2] rfl rfl (fun i u hi => news_at rfl i u hi) (by simp [Value.oneCell']) (by unfold maxLen; first | omega | (simp; omega)) (by first | omega | (simp; omega)) (by first | omega | (simp; omega)) ?_)
            intro vc wc hownc hgrowc _
            have HYc := hid (HY2.out.grow _ HO.out (by simpa [FC.cells] using hownc) hgrowc HEc.out (by have := HY2.out.len; simp at *; omega) (by simp))
            clear hownc hgrowc
            go_wp2_with fail
            go_roundw
            case rel => exact ⟨j + 1, true, _, by go_num, rfl, by omega, HYc.out⟩
            case measure => simp [intOf]; omega
          · go_wp2_with (at_builtin; refine wpList_append_own _ rfl (.tmp 29) (.tmp 33) 24 rfl wb.heap.size 54 iF _ 6 96 Tryz.underlying24 hiF hf0 hf1 hf2 rfl (by decide) _ _ _ rfl (HY.out.own.alloc _) ⟨wr.heap.size, 0, none⟩ 1 1 [.string name, .int .i64 x.k, .int .i64 x.n, .string x.s, .slice al2 x.l.length cl2, .slice af2 x.f.length cf2] rfl rfl (fun i u hi => news_at rfl i u hi) (by simp [Value.oneCell']) (by unfold maxLen; first | omega | (simp; omega)) (by first | omega | (simp; omega)) (by first | omega | (simp; omega)) ?_)
            intro v2 w2 hown2 hgrow2 _
            have HY2 := hid (HY.out.grow (j' := j) (laid' := true) ((name, x), [.int .i64 x.k, .int .i64 x.n, .string x.s, .slice al2 x.l.length cl2, .slice af2 x.f.length cf2]) HX.out (by simpa [FC.cells] using hown2) hgrow2 HE1.out (by have := hOl0.out (by first | rfl | trivial); omega) (by simp))
            have hbs2 := HY2.out.below.size
            have p1 := (HA.out.1.later HY2.out.below).cell
            have p2 := (HA.out.1.later HY2.out.below).lt
            have hB2 : Below w.heap.size w w2 := HBW.out.trans (HY2.out.below.mono HBW.out.size)
            have q0 := (hB2.cell (p := ⟨b, off + j * 6 + 1, none⟩) hbl).trans ((hB0.cell (p := ⟨b, off + j * 6 + 1, none⟩) hbl).symm.trans g0)
            have q1 := (hB2.cell (p := ⟨b, off + j * 6 + 1 + 1, none⟩) hbl).trans ((hB0.cell (p := ⟨b, off + j * 6 + 1 + 1, none⟩) hbl).symm.trans g1)
            have q2 := (hB2.cell (p := ⟨b, off + j * 6 + 1 + 2, none⟩) hbl).trans ((hB0.cell (p := ⟨b, off + j * 6 + 1 + 2, none⟩) hbl).symm.trans g2)
            have q3 := (hB2.cell (p := ⟨b, off + j * 6 + 1 + 3, none⟩) hbl).trans ((hB0.cell (p := ⟨b, off + j * 6 + 1 + 3, none⟩) hbl).symm.trans g3)
            have q4 := (hB2.cell (p := ⟨b, off + j * 6 + 1 + 4, none⟩) hbl).trans ((hB0.cell (p := ⟨b, off + j * 6 + 1 + 4, none⟩) hbl).symm.trans g4)
            have qn := (hB2.cell (p := ⟨b, off + j * 6, none⟩) hbl).trans ((hB0.cell (p := ⟨b, off + j * 6, none⟩) hbl).symm.trans gn)
            have hbr2 : b < w2.heap.size := Nat.lt_of_lt_of_le hbl hB2.size
            clear hown2 hgrow2
            have HYf := hid (show LayG G wb name x v.f _ true (j + 1) _ _ from ⟨HY2.out.own, HY2.out.ok, HY2.out.below, by
              have h := HY2.out.eq
              rw [HDR.out, rsetF, HNE.out] at h
              simpa using h, by have := HY2.out.len; omega, by simp⟩)
            go_wp2_with fail
            go_roundw
            case rel => exact ⟨j + 1, true, _, by go_num, rfl, by omega, HYf.out⟩
            case measure => simp [intOf]; omega
      · cases hne : (v.f[j].1.toList == name.toList)
        · have HNE := hid hne
          have HEg := hid (show O.map (·.1) ++ [v.f[j]] ++ rsetF name x (v.f.drop (j + 1)) true = rsetF name x v.f false by
            have h := HY.out.eq
            rw [HDR.out, rsetF, HNE.out] at h
            simpa using h)
          go_wp2_with (at_builtin; refine wpList_append_own _ rfl (.tmp 43) (.tmp 49) 24 rfl wb.heap.size 54 iF _ 6 96 Tryz.underlying24 hiF hf0 hf1 hf2 rfl (by decide) _ _ _ rfl (HY.out.own.alloc _) ⟨wr.heap.size, 0, none⟩ 1 1 [.string v.f[j].1, .int .i64 k1, .int .i64 n1, .string s1, .slice a1 l1 c1, .slice a2 l2 c2] rfl rfl (fun i u hi => news_at rfl i u hi) (by simp [Value.oneCell']) (by unfold maxLen; first | omega | (simp; omega)) (by first | omega | (simp; omega)) (by first | omega | (simp; omega)) ?_)
          intro vg wg howng hgrowg _
          have HYg := hid (HY.out.grow _ HO.out (by simpa [FC.cells] using howng) hgrowg HEg.out (by have := HY.out.len; simp at *; omega) (by simp))
          clear howng hgrowg
          go_wp2_with fail
          go_roundw
          case rel => exact ⟨j + 1, true, _, by go_num, rfl, by omega, HYg.out⟩
          case measure => simp [intOf]; omega
        · have HNE := hid hne
          have HYk := hid (show LayG G wb name x v.f _ true (j + 1) _ _ from ⟨HY.out.own, HY.out.ok, HY.out.below, by
            have h := HY.out.eq
            rw [HDR.out, rsetF, HNE.out] at h
            simpa using h, by have := HY.out.len; omega, by simp⟩)
          go_wp2_with fail
          go_roundw
          case rel => exact ⟨j + 1, true, _, by go_num, rfl, by omega, HYk.out⟩
          case measure => simp [intOf]; omega
    · have hjl' : ¬ (j : Int) < v.f.length := by omega
      have hje : v.f.drop j = [] := List.drop_eq_nil_of_le (by omega)
      have HJE := hid hje
      clear hje
      cases laid
      · go_wp2_with (at_builtin; refine wpList_append_own _ rfl (.tmp 53) (.tmp 57) 24 rfl wb.heap.size 54 iF _ 6 96 Tryz.underlying24 hiF hf0 hf1 hf2 rfl (by decide) _ _ _ rfl (HY.out.own.alloc _) ⟨wr.heap.size, 0, none⟩ 1 1 [.string name, .int .i64 x.k, .int .i64 x.n, .string x.s, .slice al2 x.l.length cl2, .slice af2 x.f.length cf2] rfl rfl (fun i u hi => news_at rfl i u hi) (by simp [Value.oneCell']) (by unfold maxLen; first | omega | (simp; omega)) (by first | omega | (simp; omega)) (by first | omega | (simp; omega)) ?_)
        intro v2 w2 hown2 hgrow2 _
        have HY2 := hid (HY.out.grow (j' := j) (laid' := true) ((name, x), [.int .i64 x.k, .int .i64 x.n, .string x.s, .slice al2 x.l.length cl2, .slice af2 x.f.length cf2]) HX.out (by simpa [FC.cells] using hown2) hgrow2 (by have h := HY.out.eq; rw [HJE.out] at h ⊢; simpa [rsetF] using h) (by have := hOl0.out (by first | rfl | trivial); omega) (by simp))
        clear hown2 hgrow2
        have HO1 := hid (show (O ++ [((name, x), ([.int .i64 x.k, .int .i64 x.n, .string x.s, .slice al2 x.l.length cl2, .slice af2 x.f.length cf2] : List Value))]).map (·.1) = rsetF name x v.f false from by have h := HY2.out.eq; rw [HJE.out] at h; simpa [rsetF] using h)
        obtain ⟨af3, cf3, rfl⟩ := own_slice6 HY2.out.own
        simp only [List.length_append, List.length_singleton] at *
        have A1 := HA.out.1.later HY2.out.below
        have A3 := HA.out.2.2.later HY2.out.below
        have c1 := A1.cell
        have l1 := A1.lt
        have f1 := A1.free
        have hR := (Below.heap_setCell w2 ⟨w.heap.size, 4, none⟩ (.slice af3 (O.length + 1) cf3) (w.heap.size + 1 + 1) (by simp; omega)).trans A3
        have l3 := A3.lt
        go_wp2_with (refine wpList_store_row rfl 26 (.tmp 6) (.tmp 61) rfl (w.heap.size + 1 + 1) #[.int .i64 v.k, .int .i64 v.n, .string v.s, .slice al v.l.length cl, .slice af3 (O.length + 1) cf3] rfl rfl 26 #[.int .i64 0, .int .i64 0, .string ⟨#[]⟩, .slice none 0 0, .slice none 0 0] hR (by kernel_rfl) rfl (by simp [Value.oneCell']) ?_)
        have rc := (At.setRow hR #[.int .i64 v.k, .int .i64 v.n, .string v.s, .slice al v.l.length cl, .slice af3 (O.length + 1) cf3]).cell
        have hBB : Below w.heap.size w ((w2.setCell ⟨w.heap.size, 4, none⟩ (.slice af3 (O.length + 1) cf3)).setRow (w.heap.size + 1 + 1) #[.int .i64 v.k, .int .i64 v.n, .string v.s, .slice al v.l.length cl, .slice af3 (O.length + 1) cf3]) := below_setRow ((HBW.out.trans (HY2.out.below.mono HBW.out.size)).setCell (p := ⟨w.heap.size, 4, none⟩) (Nat.le_refl _) _) (by omega) _
        refine bodyPost_ret (v := .agg #[.int .i64 v.k, .int .i64 v.n, .string v.s, .slice al v.l.length cl, .slice af3 (O.length + 1) cf3]) (by simp [results, Tryz.results87, go_sem, rc]) rfl ⟨⟨al, af3, cl, cf3, _, by simp, ⟨_, _, rfl⟩, ?_, HO1.out, HY2.out.ok⟩, hBB⟩
        have hfin := ownsRow_base (ownsRow_setRow_below (ownsRow_setCell_below HY2.out.own (a := ⟨w.heap.size, 4, none⟩) hw1 (.slice af3 (O.length + 1) cf3)) hw3 #[.int .i64 v.k, .int .i64 v.n, .string v.s, .slice al v.l.length cl, .slice af3 (O.length + 1) cf3]) HBW.out.size
        first | exact hfin | simpa only [List.length_append, List.length_singleton] using hfin
      · have HO1 := hid (show O.map (·.1) = rsetF name x v.f false from by have h := HY.out.eq; rw [HJE.out] at h; simpa [rsetF] using h)
        obtain ⟨af3, cf3, rfl⟩ := own_slice6 HY.out.own
        have A1 := HA.out.1.later HY.out.below
        have A3 := HA.out.2.2.later HY.out.below
        have c1 := A1.cell
        have l1 := A1.lt
        have f1 := A1.free
        have hR := (Below.heap_setCell wr ⟨w.heap.size, 4, none⟩ (.slice af3 O.length cf3) (w.heap.size + 1 + 1) (by simp; omega)).trans A3
        have l3 := A3.lt
        go_wp2_with (refine wpList_store_row rfl 26 (.tmp 6) (.tmp 61) rfl (w.heap.size + 1 + 1) #[.int .i64 v.k, .int .i64 v.n, .string v.s, .slice al v.l.length cl, .slice af3 O.length cf3] rfl rfl 26 #[.int .i64 0, .int .i64 0, .string ⟨#[]⟩, .slice none 0 0, .slice none 0 0] hR (by kernel_rfl) rfl (by simp [Value.oneCell']) ?_)
        have rc := (At.setRow hR #[.int .i64 v.k, .int .i64 v.n, .string v.s, .slice al v.l.length cl, .slice af3 O.length cf3]).cell
        have hBB : Below w.heap.size w ((wr.setCell ⟨w.heap.size, 4, none⟩ (.slice af3 O.length cf3)).setRow (w.heap.size + 1 + 1) #[.int .i64 v.k, .int .i64 v.n, .string v.s, .slice al v.l.length cl, .slice af3 O.length cf3]) := below_setRow ((HBW.out.trans (HY.out.below.mono HBW.out.size)).setCell (p := ⟨w.heap.size, 4, none⟩) (Nat.le_refl _) _) (by omega) _
        refine bodyPost_ret (v := .agg #[.int .i64 v.k, .int .i64 v.n, .string v.s, .slice al v.l.length cl, .slice af3 O.length cf3]) (by simp [results, Tryz.results87, go_sem, rc]) rfl ⟨⟨al, af3, cl, cf3, _, rfl, ⟨_, _, rfl⟩, ?_, HO1.out, HY.out.ok⟩, hBB⟩
        exact ownsRow_base (ownsRow_setRow_below (ownsRow_setCell_below HY.out.own (a := ⟨w.heap.size, 4, none⟩) hw1 _) hw3 _) HBW.out.size
end Go.Proofs.YtddoigjjgcefkaaGreatDoor

/-
  Reading, the document's answer: a dictionary that is being read.
-/
namespace Go.Proofs.YtddoigjjgcefkaaGreatDoor
open Go.RowKit
set_option maxRecDepth 100000

theorem rsetF_len (name : ByteArray) (x : V) : ∀ (l : List (ByteArray × V)) (b : Bool), (getF name l).isSome = false → (rsetF name x l b).length = l.length + (if b then 0 else 1)
  | [], b, _ => by cases b <;> simp [rsetF]
  | q :: l, b, h => by
    have hn : (q.1.toList == name.toList) = false := by
      cases hh : (q.1.toList == name.toList)
      · rfl
      · rw [getF_some (i := 0) (q := q) rfl hh (fun j s hj => by omega)] at h; cases h
    have hl : (getF name l).isSome = false := by
      rw [getF, hn] at h; exact h
    have ih := rsetF_len name x l (b || leB name q.1) hl
    rw [rsetF, hn]
    simp only [List.length_append, ih]
    cases b <;> cases leB name q.1 <;> simp <;> omega
/-- A dictionary that the answer is reading. -/
structure DictA (w wr : World) (d : Nat) (t : Value) (O : List FC) : Prop where
  below : Below w.heap.size w wr
  box : At wr w.heap.size 26 (vc 0 0 ⟨#[]⟩)
  vbox : At wr (w.heap.size + 1) 26 #[.int .i64 6, .int .i64 0, .string ⟨#[]⟩, .slice none 0 0, t]
  own : wr.ownsRow (w.heap.size + 2) 54 6 t O.length (flatO O)
  reps : ∀ o ∈ O, o.1.1.size ≤ 200 ∧ RepIn (fun b => w.heap.size + 2 ≤ b ∧ b < wr.heap.size) d wr o.1.2 o.2
theorem DictA.size {w a : World} {d : Nat} {t : Value} {O : List FC} (h : DictA w a d t O) : w.heap.size + 2 ≤ a.heap.size := At.lt h.vbox
theorem ownsRow_later {a b : World} {base : Nat} {T : TypeId} {n m : Nat} {t : Value} {xs : List Value} (h : a.ownsRow base T n t m xs) (hb : Below a.heap.size a b) : b.ownsRow base T n t m xs := by
  refine World.ownsRow.kept h (row := none) ⟨hb.os, hb.tape, hb.output, hb.size, fun k hk _ => hb.block k hk⟩ ?_
  cases hv : t.ownBlock with
  | none => exact .inl rfl
  | some g => exact .inr (by simp)
theorem DictA.later {w a b : World} {d : Nat} {t : Value} {O : List FC} (h : DictA w a d t O) (m : Below a.heap.size a b) : DictA w b d t O := by
  have hs := h.size
  refine ⟨h.below.trans (m.mono (by omega)), At.later h.box m, At.later h.vbox m, ownsRow_later h.own m, fun o ho => ⟨(h.reps o ho).1, ?_⟩⟩
  exact ((h.reps o ho).2.agree m.size fun b hb => m.block b hb.2).mono fun b hb => ⟨hb.1, Nat.lt_of_lt_of_le hb.2 m.size⟩
theorem DictA.cells {w a : World} {d : Nat} {t : Value} {O : List FC} (h : DictA w a d t O) :
    (a.cell? ⟨w.heap.size + 1, 0, none⟩ = some (.int .i64 6) ∧ a.cell? ⟨w.heap.size + 1, 1, none⟩ = some (.int .i64 0) ∧ a.cell? ⟨w.heap.size + 1, 2, none⟩ = some (.string ⟨#[]⟩) ∧ a.cell? ⟨w.heap.size + 1, 3, none⟩ = some (.slice none 0 0) ∧ a.cell? ⟨w.heap.size + 1, 4, none⟩ = some t) ∧
    (a.frozen? ⟨w.heap.size + 1, 0, none⟩ = false ∧ a.frozen? ⟨w.heap.size + 1, 1, none⟩ = false ∧ a.frozen? ⟨w.heap.size + 1, 2, none⟩ = false ∧ a.frozen? ⟨w.heap.size + 1, 3, none⟩ = false ∧ a.frozen? ⟨w.heap.size + 1, 4, none⟩ = false) := five_cells h.vbox
theorem DictA.rep {w a : World} {d : Nat} {t : Value} {O : List FC} (h : DictA w a d t O) (hl : O.length ≤ 1000) :
    RepIn (fun b => w.heap.size + 2 ≤ b ∧ b < a.heap.size) (d + 1) a ⟨6, 0, eB, [], O.map (·.1)⟩ [.int .i64 6, .int .i64 0, .string eB, .slice none 0 0, t] :=
  repIn_dict h.own h.reps hl (fun _ hb => hb) (fun g hg => h.own.lt g hg)
theorem DictA.fill {w a : World} {d : Nat} {t : Value} {O : List FC} (h : DictA w a d t O) (hl : O.length ≤ 1000) (v0 v1 v2 v3 v4 : Value) {wf : World} (hf : wf = set5 a w.heap.size v0 v1 v2 v3 v4) :
    Below w.heap.size w wf ∧ At wf w.heap.size 26 #[v0, v1, v2, v3, v4] ∧ RepIn (fun b => w.heap.size ≤ b ∧ b < wf.heap.size) (d + 1) wf ⟨6, 0, eB, [], O.map (·.1)⟩ [.int .i64 6, .int .i64 0, .string eB, .slice none 0 0, t] := by
  subst hf
  refine ⟨below_set5 h.below (Nat.le_refl _) _ _ _ _ _, At.five h.box _ _ _ _ _, ?_⟩
  refine ((h.rep hl).agree (by rw [set5_size]; exact Nat.le_refl _) fun b hb => set5_other _ _ _ _ _ _ _ (by have := hb.1; omega)).mono fun b hb => ⟨by have := hb.1; omega, by rw [set5_size]; exact hb.2⟩
/-- The dictionary's block holds a new row. -/
theorem DictA.set {w a b wz : World} {d : Nat} {t t' : Value} {O O' : List FC} (h : DictA w a d t O) (m : Below a.heap.size a b) (hown : b.ownsRow a.heap.size 54 6 t' O'.length (flatO O')) (hG : ∀ o ∈ O', o.1.1.size ≤ 200 ∧ RepIn (fun g => w.heap.size + 2 ≤ g ∧ g < a.heap.size) d a o.1.2 o.2)
    (h1 : Below w.heap.size w wz) (hos : wz.os = b.os ∧ wz.tape = b.tape ∧ wz.output = b.output) (sz : wz.heap.size = b.heap.size) (oth : ∀ k, k ≠ w.heap.size + 1 → wz.heap[k]? = b.heap[k]?) (h3 : At wz (w.heap.size + 1) 26 #[.int .i64 6, .int .i64 0, .string ⟨#[]⟩, .slice none 0 0, t']) : DictA w wz d t' O' := by
  have has := h.size
  have hb := h.later m
  have hms := m.size
  refine ⟨h1, (oth w.heap.size (by omega)).trans hb.box, h3, ?_, fun o ho => ⟨(hG o ho).1, ?_⟩⟩
  · refine ownsRow_base (World.ownsRow.kept hown (row := some (w.heap.size + 1)) ⟨hos.1, hos.2.1, hos.2.2, by rw [sz]; exact Nat.le_refl _, fun k hk hne => oth k (fun e => hne (by rw [e]))⟩ ?_) has
    cases hv : t'.ownBlock with
    | none => exact .inl rfl
    | some g => exact .inr (fun e => by cases e; have := (hown.lt _ hv).1; omega)
  · refine ((hG o ho).2.agree (by rw [sz]; exact hms) fun k hk => ?_).mono fun k hk => ⟨hk.1, by rw [sz]; have := hk.2; omega⟩
    rw [oth k (by have := hk.1; omega)]; exact m.block k hk.2
set_option maxHeartbeats 1000000 in
/-- A field that is set in a dictionary that is being read. -/
theorem dSet {w a : World} {d : Nat} {al : Option Addr} {cl : Nat} {O : List FC} {x : V} {cx : List Value} (name : ByteArray) (hO : O.length ≤ 300) (hn : name.size ≤ 200) (h : DictA w a d (.slice al O.length cl) O) (hx : RepIn (fun g => w.heap.size + 2 ≤ g ∧ g < a.heap.size) d a x cx) (hg : (getF name (O.map (·.1))).isSome = false) :
    Calls Tryz.prog 87 #[.agg #[.int .i64 6, .int .i64 0, .string ⟨#[]⟩, .slice none 0 0, .slice al O.length cl], .string name, .agg cx.toArray] a fun r b => ∃ (af : Option Addr) (cf : Nat) (O' : List FC), r = .returned (.agg #[.int .i64 6, .int .i64 0, .string ⟨#[]⟩, .slice none 0 0, .slice af (O.length + 1) cf]) ∧
      Below a.heap.size a b ∧ Hid (O'.map (·.1) = rsetF name x (O.map (·.1)) false ∧ O'.length = O.length + 1 ∧ DictA w (b.setRow (w.heap.size + 1) #[.int .i64 6, .int .i64 0, .string ⟨#[]⟩, .slice none 0 0, .slice af (O.length + 1) cf]) d (.slice af (O.length + 1) cf) O') := by
  have hv := (h.rep (by omega)).now
  have q := rSetG (e := d) (v := ⟨6, 0, eB, [], O.map (·.1)⟩) (x := x) (fun o => o.1.1.size ≤ 200 ∧ RepIn (fun g => w.heap.size + 2 ≤ g ∧ g < a.heap.size) d a o.1.2 o.2) name hv (hx.now.mono (by omega)) (by simp; omega) ⟨hn, hx⟩ (fun j q b off al' cl' cf' c hcs hq hc hlen => by
    have hq' : (O.map (·.1))[j]? = some q := hq
    rw [List.getElem?_map, Option.map_eq_some_iff] at hq'
    obtain ⟨o, ho, rfl⟩ := hq'
    have hj := (List.getElem?_eq_some_iff.1 ho).1
    have hm := List.mem_of_getElem? ho
    have hok : ∀ o ∈ O, o.ok d a := fun o ho => ⟨by have := (h.reps o ho).1; unfold maxLen; omega, (h.reps o ho).2.now⟩
    have e : o.2 = c := by
      obtain ⟨_, h0 | ⟨g, cap, cur, r1, _⟩⟩ := h.own
      · have := h0.2; omega
      · injection r1 with r1 _ _
        have hal : al = some ⟨b, off, none⟩ := by
          simp only [List.cons.injEq, Value.slice.injEq] at hcs
          exact hcs.2.2.2.2.1.1
        rw [hal] at r1
        injection r1 with r1
        injection r1 with r1 r2
        have cell : ∀ i, i < 6 → a.cell? ⟨g, j * 6 + i, none⟩ = o.cells[i]? := fun i hi => by
          have hc2 := h.own
          rw [hal, r1, r2] at hc2
          rw [hc2.cellAt _ (by omega), flatO_get hok ho i hi]
        apply List.ext_getElem?
        intro i
        by_cases hi : i < 5
        · have hci : c[i]? = some c[i] := List.getElem?_eq_getElem (by omega)
          have e1 := hc i _ hci
          rw [r1, r2, show 0 + j * 6 + 1 + i = j * 6 + (1 + i) by omega, cell (1 + i) (by omega)] at e1
          have e3 : o.cells[1 + i]? = o.2[i]? := by rw [Nat.add_comm]; simp [FC.cells]
          rw [hci, ← e1, e3]
        · rw [List.getElem?_eq_none (by rw [rep_len (hok o hm).2]; omega), List.getElem?_eq_none (by omega)]
    subst e
    exact h.reps o hm)
  refine q.mono ?_
  rintro r b ⟨⟨al', af, cl', cf, O', hr, ⟨af0, cf0, hcs⟩, hown, hO', hG⟩, hb⟩
  have hal : al' = none ∧ cl' = 0 := by
    simp only [List.cons.injEq, Value.slice.injEq] at hcs
    exact ⟨hcs.2.2.2.1.1.symm, hcs.2.2.2.1.2.2.symm⟩
  obtain ⟨rfl, rfl⟩ := hal
  have hl : O'.length = O.length + 1 := by
    have := congrArg List.length hO'
    rw [List.length_map, rsetF_len _ _ _ _ hg] at this
    simpa using this
  rw [hl] at hr hown
  refine ⟨af, cf, O', hr, hb, hid ⟨hO', hl, ?_⟩⟩
  have hB := h.later hb
  have z1 : Below w.heap.size w (b.setRow (w.heap.size + 1) #[.int .i64 6, .int .i64 0, .string ⟨#[]⟩, .slice none 0 0, .slice af (O.length + 1) cf]) := below_setRow hB.below (by omega) _
  have z2 : (b.setRow (w.heap.size + 1) #[.int .i64 6, .int .i64 0, .string ⟨#[]⟩, .slice none 0 0, .slice af (O.length + 1) cf]).heap.size = b.heap.size := by simp [World.setRow]
  have z3 : ∀ k, k ≠ w.heap.size + 1 → (b.setRow (w.heap.size + 1) #[.int .i64 6, .int .i64 0, .string ⟨#[]⟩, .slice none 0 0, .slice af (O.length + 1) cf]).heap[k]? = b.heap[k]? := fun k hk => setRow_other b (w.heap.size + 1) k _ hk
  have z4 := At.setRow hB.vbox #[.int .i64 6, .int .i64 0, .string ⟨#[]⟩, .slice none 0 0, .slice af (O.length + 1) cf]
  have z5 : (b.setRow (w.heap.size + 1) #[.int .i64 6, .int .i64 0, .string ⟨#[]⟩, .slice none 0 0, .slice af (O.length + 1) cf]).os = b.os ∧ (b.setRow (w.heap.size + 1) #[.int .i64 6, .int .i64 0, .string ⟨#[]⟩, .slice none 0 0, .slice af (O.length + 1) cf]).tape = b.tape ∧ (b.setRow (w.heap.size + 1) #[.int .i64 6, .int .i64 0, .string ⟨#[]⟩, .slice none 0 0, .slice af (O.length + 1) cf]).output = b.output := ⟨rfl, rfl, rfl⟩
  generalize b.setRow (w.heap.size + 1) #[.int .i64 6, .int .i64 0, .string ⟨#[]⟩, .slice none 0 0, .slice af (O.length + 1) cf] = wz at z1 z2 z3 z4 z5 ⊢
  exact h.set hb (by rw [hl]; exact hown) hG z1 z5 z2 z3 z4
end Go.Proofs.YtddoigjjgcefkaaGreatDoor
