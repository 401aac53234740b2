/-
  Joined: Yp, Yq, Yr.
-/
import Derived.Test.YtflcibmjblioaaaGreatDoorYo

/-
  The program's reader: fields.
-/
namespace Go.Proofs.YtflcibmjblioaaaGreatDoor
open Go.RowKit
set_option maxRecDepth 100000

/-- No name stands there. -/
theorem yNameNo (P : Nat) (s : ByteArray) (k : Nat) (w : World) (hR : RdAt w P s k) (hk : k < s.size) (h47 : s[k] ≠ 47) :
    Calls Tryz.prog 89 #[.pointer (some ⟨P, 0, none⟩)] w fun e w' => e = .returned (nameOut none) ∧ Moved P w w' s k := by
  have HB := hid (show Lib.hasPrefix (s.data.toList.drop k) [47] = false by
    rw [List.drop_eq_getElem_cons (by simpa using hk)]
    show List.isPrefixOf [47] (s[k] :: _) = false
    simp [List.isPrefixOf, beq_eq_false_iff_ne, Ne.symm h47])
  go_enter Tryz.func89, Tryz.ntmps89
  go_wp2_with (go_at_call 88; go_must (refine (yAheadB P s ⟨#[47]⟩ k false _ hR (by omega) HB.out).mono ?_); rintro e w1 ⟨rfl, hm1⟩)
  go_ret2
  exact ⟨rfl, hm1⟩
/-- What reading a field makes: a name and a value, an error, where it ends. -/
def rdFd (f : Nat → Rd) (s : ByteArray) (k : Nat) : (ByteArray × V) × Int × Nat :=
  if s.data.toList[k]? = some 47 then
    match nameR (wordP s (k + 1)).data.toList with
    | none => ((eB, V0 0 0 eB), 4, k)
    | some b => ((⟨b.toArray⟩, (f (k + 1 + (wordP s (k + 1)).size)).1), (f (k + 1 + (wordP s (k + 1)).size)).2.1, (f (k + 1 + (wordP s (k + 1)).size)).2.2)
  else ((eB, V0 0 0 eB), 4, k)
/-- What a call that reads a field says. -/
def SaidF (P : Nat) (w : World) (s : ByteArray) (d : Nat) (r : (ByteArray × V) × Int × Nat) (e : Ending) (w' : World) : Prop :=
  ∃ (m : ByteArray) (k n : Int) (t : ByteArray) (a1 a2 : Option Addr) (l1 c1 l2 c2 J : Nat), e = .returned (.tuple #[.agg #[.string m, .int .i64 k, .int .i64 n, .string t, .slice a1 l1 c1, .slice a2 l2 c2], errN r.2.1]) ∧ Moved P w w' s J ∧
    Hid (r.2.1 = 0 → J = r.2.2 ∧ J ≤ s.size ∧ m = r.1.1 ∧ RepIn (fun b => w.heap.size ≤ b ∧ b < w'.heap.size) d w' r.1.2 [.int .i64 k, .int .i64 n, .string t, .slice a1 l1 c1, .slice a2 l2 c2])
/-- Six cells, written one by one. -/
def set6 (w : World) (b : Nat) (v0 v1 v2 v3 v4 v5 : Value) : World := (((((w.setCell ⟨b, 0, none⟩ v0).setCell ⟨b, 1, none⟩ v1).setCell ⟨b, 2, none⟩ v2).setCell ⟨b, 3, none⟩ v3).setCell ⟨b, 4, none⟩ v4).setCell ⟨b, 5, none⟩ v5
theorem At.six {w : World} {b : Nat} {T : TypeId} {u0 u1 u2 u3 u4 u5 : Value} (h : At w b T #[u0, u1, u2, u3, u4, u5]) (v0 v1 v2 v3 v4 v5 : Value) : At (set6 w b v0 v1 v2 v3 v4 v5) b T #[v0, v1, v2, v3, v4, v5] := by
  have h0 := heap_setCell_same w b 0 _ _ v0 h
  have h1 := heap_setCell_same _ b 1 _ _ v1 h0
  have h2 := heap_setCell_same _ b 2 _ _ v2 h1
  have h3 := heap_setCell_same _ b 3 _ _ v3 h2
  have h4 := heap_setCell_same _ b 4 _ _ v4 h3
  exact heap_setCell_same _ b 5 _ _ v5 h4
theorem set6_size (w : World) (b : Nat) (v0 v1 v2 v3 v4 v5 : Value) : (set6 w b v0 v1 v2 v3 v4 v5).heap.size = w.heap.size := by simp [set6, World.setCell]
theorem set6_other (w : World) (b : Nat) (v0 v1 v2 v3 v4 v5 : Value) {k : Nat} (h : k ≠ b) : (set6 w b v0 v1 v2 v3 v4 v5).heap[k]? = w.heap[k]? := by
  unfold set6; rw [Below.heap_setCell _ _ _ _ h, Below.heap_setCell _ _ _ _ h, Below.heap_setCell _ _ _ _ h, Below.heap_setCell _ _ _ _ h, Below.heap_setCell _ _ _ _ h, Below.heap_setCell _ _ _ _ h]
theorem six_cells {w : World} {b : Nat} {T : TypeId} {v0 v1 v2 v3 v4 v5 : Value} (h : At w b T #[v0, v1, v2, v3, v4, v5]) :
    (w.cell? ⟨b, 0, none⟩ = some v0 ∧ w.cell? ⟨b, 1, none⟩ = some v1 ∧ w.cell? ⟨b, 2, none⟩ = some v2 ∧ w.cell? ⟨b, 3, none⟩ = some v3 ∧ w.cell? ⟨b, 4, none⟩ = some v4 ∧ w.cell? ⟨b, 5, none⟩ = some v5) ∧
    (w.frozen? ⟨b, 0, none⟩ = false ∧ w.frozen? ⟨b, 1, none⟩ = false ∧ w.frozen? ⟨b, 2, none⟩ = false ∧ w.frozen? ⟨b, 3, none⟩ = false ∧ w.frozen? ⟨b, 4, none⟩ = false ∧ w.frozen? ⟨b, 5, none⟩ = false) :=
  ⟨⟨At.cell h 0, At.cell h 1, At.cell h 2, At.cell h 3, At.cell h 4, At.cell h 5⟩, At.free h 0, At.free h 1, At.free h 2, At.free h 3, At.free h 4, At.free h 5⟩
/-- A reader that has come to j, and a new field's block that is still empty. -/
structure BoxedF (P : Nat) (w wr : World) (s : ByteArray) (j : Nat) : Prop where
  mov : Moved P w wr s j
  lt : P < w.heap.size
  box : At wr w.heap.size 74 #[.string ⟨#[]⟩, .int .i64 0, .int .i64 0, .string ⟨#[]⟩, .slice none 0 0, .slice none 0 0]
theorem BoxedF.new {P : Nat} {w : World} {s : ByteArray} {k : Nat} (hR : RdAt w P s k) : BoxedF P w (w.alloc (.cells #[.string ⟨#[]⟩, .int .i64 0, .int .i64 0, .string ⟨#[]⟩, .slice none 0 0, .slice none 0 0] 74)) s k :=
  ⟨(Moved.refl hR).below (At.lt hR) (below_box _ _), At.lt hR, At.new _ _ _ rfl⟩
theorem BoxedF.moved {P : Nat} {w a b : World} {s : ByteArray} {j i : Nat} (h : BoxedF P w a s j) (m : Moved P a b s i) : BoxedF P w b s i :=
  ⟨h.mov.trans m, h.lt, m.keep.at h.box (by have := h.lt; omega)⟩
theorem BoxedF.below {P : Nat} {w a b : World} {s : ByteArray} {j : Nat} (h : BoxedF P w a s j) (hb : Below a.heap.size a b) : BoxedF P w b s j :=
  h.moved ⟨.of hb, At.later h.mov.at_ hb⟩
theorem BoxedF.env {m : Int} {P : Nat} {w a : World} {s : ByteArray} {j : Nat} (h : BoxedF P w a s j) (hE : Env m P w) : Env m P a := hE.moved h.mov h.lt
theorem BoxedF.fill {P : Nat} {w a : World} {s : ByteArray} {j : Nat} (h : BoxedF P w a s j) (v0 v1 v2 v3 v4 v5 : Value) {wf : World} (hf : wf = set6 a w.heap.size v0 v1 v2 v3 v4 v5) :
    Moved P w wf s j ∧ At wf w.heap.size 74 #[v0, v1, v2, v3, v4, v5] ∧ wf.heap.size = a.heap.size ∧ ∀ k, k ≠ w.heap.size → wf.heap[k]? = a.heap[k]? := by
  subst hf
  exact ⟨(h.mov.set5 (Nat.le_refl _) h.lt _ _ _ _ _).setNew (Nat.le_refl _) h.lt _ _, At.six h.box _ _ _ _ _ _, set6_size _ _ _ _ _ _ _ _, fun k hk => set6_other _ _ _ _ _ _ _ _ hk⟩
set_option maxHeartbeats 4000000 in
theorem yField (m : Int) (P : Nat) (s : ByteArray) (k d : Nat) (deep : Int) (f : Nat → Rd) (w : World) (hE : Env m P w) (hR : RdAt w P s k) (hk : k < s.size) (hs : s.size ≤ 100000)
    (hval : ∀ (w : World) (j : Nat), Env m P w → RdAt w P s j → j ≤ s.size → Calls Tryz.prog 55 #[.pointer (some ⟨P, 0, none⟩), .int .i64 deep] w (Said P w s d (f j))) :
    Calls Tryz.prog 145 #[.pointer (some ⟨P, 0, none⟩), .int .i64 deep] w (SaidF P w s d (rdFd f s k)) := by
  have hPl : P < w.heap.size := At.lt hR
  have hX0 := BoxedF.new hR
  have hg : s.data.toList[k]? = some s[k] := by rw [List.getElem?_eq_getElem (by simpa using hk)]; rfl
  by_cases h47 : s[k] = 47
  · have hle := yWordLe (s := s) (k := k + 1) (by omega)
    have HU := hid (show rdFd f s k = _ by unfold rdFd; rw [if_pos (by rw [hg, h47])])
    have hn := fun (w : World) (h : RdAt w P s k) => yName P s k w h hk h47 hs
    generalize wordP s (k + 1) = W at hle HU hn
    cases hr : nameR W.data.toList with
    | none =>
      rw [hr] at hn
      have HU2 := HU.out
      rw [hr] at HU2
      simp only at HU2
      rw [HU2]
      clear HU HU2 hval
      unfold nameOut at hn
      go_enter Tryz.func145, Tryz.ntmps145
      go_wp2_with (go_at_call 89; go_must (refine (hn _ hX0.mov.at_).mono ?_); rintro e w1 ⟨rfl, hm1⟩; (have hX1 := hX0.moved hm1); (have hz1 := At.lt hX1.box); obtain ⟨⟨bx0, bx1, bx2, bx3, bx4, bx5⟩, fx0, fx1, fx2, fx3, fx4, fx5⟩ := six_cells hX1.box)
      obtain ⟨hM5, hB5, hS5, hO5⟩ := hX1.fill (.string ⟨#[]⟩) (.int .i64 0) (.int .i64 0) (.string ⟨#[]⟩) (.slice none 0 0) (.slice none 0 0) rfl
      unfold set6 at hM5 hB5 hS5 hO5
      generalize World.setCell _ _ _ = wf at hM5 hB5 hS5 hO5 ⊢
      obtain ⟨⟨cx0, cx1, cx2, cx3, cx4, cx5⟩, _⟩ := six_cells hB5
      refine bodyPost_ret (v := .tuple #[.agg #[.string ⟨#[]⟩, .int .i64 0, .int .i64 0, .string ⟨#[]⟩, .slice none 0 0, .slice none 0 0], .iface 50 (.int .i64 4)]) (by simp [results, Tryz.results145, go_sem, cx0, cx1, cx2, cx3, cx4, cx5]; try first | exact ⟨rfl, rfl⟩ | rfl) rfl ?_
      exact ⟨⟨#[]⟩, 0, 0, ⟨#[]⟩, none, none, 0, 0, 0, 0, _, rfl, hM5, hid (fun h => absurd (show (4 : Int) = 0 from h) (by decide))⟩
    | some b =>
      rw [hr] at hn
      have HU2 := HU.out
      rw [hr] at HU2
      simp only at HU2
      rw [HU2]
      clear HU HU2
      unfold nameOut at hn
      have hv := fun (w : World) (h1 : Env m P w) (h2 : RdAt w P s (k + 1 + W.size)) => hval w (k + 1 + W.size) h1 h2 (by omega)
      clear hval hr
      generalize f (k + 1 + W.size) = r at hv ⊢
      obtain ⟨x, e1, z1⟩ := r
      unfold Said at hv
      simp only at hv
      go_enter Tryz.func145, Tryz.ntmps145
      go_wp2_with (first | (go_at_call 89; go_must (refine (hn _ hX0.mov.at_).mono ?_); rintro e w1 ⟨rfl, hm1⟩; (have hX1 := hX0.moved hm1); (have hz1 := At.lt hX1.box); obtain ⟨⟨bx0, bx1, bx2, bx3, bx4, bx5⟩, fx0, fx1, fx2, fx3, fx4, fx5⟩ := six_cells hX1.box) | (go_at_call 55; go_must (refine (hv _ (hX1.env hE) hX1.mov.at_).mono ?_); rintro e w2 ⟨k1, n1, t1, a1, a2, l1, c1, l2, c2, J, rfl, hm2, HQ⟩; (have hX2 := hX1.moved hm2); (have hXa := hX2.below (below_box w2 (.cells #[.int .i64 k1, .int .i64 n1, .string t1, .slice a1 l1 c1, .slice a2 l2 c2] 40))); obtain ⟨⟨by0, by1, by2, by3, by4, by5⟩, fy0, fy1, fy2, fy3, fy4, fy5⟩ := six_cells hXa.box))
      obtain ⟨hM5, hB5, hS5, hO5⟩ := hXa.fill (.string ⟨b.toArray⟩) (.int .i64 k1) (.int .i64 n1) (.string t1) (.slice a1 l1 c1) (.slice a2 l2 c2) rfl
      unfold set6 at hM5 hB5 hS5 hO5
      generalize World.setCell _ _ _ = wf at hM5 hB5 hS5 hO5 ⊢
      obtain ⟨⟨cx0, cx1, cx2, cx3, cx4, cx5⟩, _⟩ := six_cells hB5
      refine bodyPost_ret (v := .tuple #[.agg #[.string ⟨b.toArray⟩, .int .i64 k1, .int .i64 n1, .string t1, .slice a1 l1 c1, .slice a2 l2 c2], errN e1]) (by simp [results, Tryz.results145, go_sem, cx0, cx1, cx2, cx3, cx4, cx5]; try first | exact ⟨rfl, rfl⟩ | rfl) rfl ?_
      exact ⟨_, k1, n1, t1, a1, a2, l1, c1, l2, c2, J, rfl, hM5, hid (fun h => by
        obtain ⟨q1, q2, q3⟩ := HQ.out h
        have hs5 : wf.heap.size = w2.heap.size + 1 := by rw [hS5]; simp
        refine ⟨q1, q2, rfl, (q3.agree (by omega) fun b hb => ?_).mono fun b hb => ⟨by have := hb.1; omega, by have := hb.2; omega⟩⟩
        rw [hO5 b (by have := hb.1; omega), heap_alloc_old _ _ hb.2])⟩
  · have HRN := hid (show ((eB, V0 0 0 eB), 4, k) = rdFd f s k by unfold rdFd; rw [if_neg (by rw [hg]; simpa using h47)])
    rw [← HRN.out]
    have hn := fun (w : World) (h : RdAt w P s k) => yNameNo P s k w h hk h47
    unfold nameOut at hn
    clear hval HRN
    go_enter Tryz.func145, Tryz.ntmps145
    go_wp2_with (go_at_call 89; go_must (refine (hn _ hX0.mov.at_).mono ?_); rintro e w1 ⟨rfl, hm1⟩; (have hX1 := hX0.moved hm1); (have hz1 := At.lt hX1.box); obtain ⟨⟨bx0, bx1, bx2, bx3, bx4, bx5⟩, fx0, fx1, fx2, fx3, fx4, fx5⟩ := six_cells hX1.box)
    obtain ⟨hM5, hB5, hS5, hO5⟩ := hX1.fill (.string ⟨#[]⟩) (.int .i64 0) (.int .i64 0) (.string ⟨#[]⟩) (.slice none 0 0) (.slice none 0 0) rfl
    unfold set6 at hM5 hB5 hS5 hO5
    generalize World.setCell _ _ _ = wf at hM5 hB5 hS5 hO5 ⊢
    obtain ⟨⟨cx0, cx1, cx2, cx3, cx4, cx5⟩, _⟩ := six_cells hB5
    refine bodyPost_ret (v := .tuple #[.agg #[.string ⟨#[]⟩, .int .i64 0, .int .i64 0, .string ⟨#[]⟩, .slice none 0 0, .slice none 0 0], .iface 50 (.int .i64 4)]) (by simp [results, Tryz.results145, go_sem, cx0, cx1, cx2, cx3, cx4, cx5]; try first | exact ⟨rfl, rfl⟩ | rfl) rfl ?_
    exact ⟨⟨#[]⟩, 0, 0, ⟨#[]⟩, none, none, 0, 0, 0, 0, _, rfl, hM5, hid (fun h => absurd (show (4 : Int) = 0 from h) (by decide))⟩
end Go.Proofs.YtflcibmjblioaaaGreatDoor

/-
  The program's reader: names, compared.
-/
namespace Go.Proofs.YtflcibmjblioaaaGreatDoor
open Go.RowKit
set_option maxRecDepth 100000

/-- How two names stand to each other. -/
def cmpB (x y : ByteArray) : Int := if Op.bytesLess x.toList y.toList then -1 else if Op.bytesLess y.toList x.toList then 1 else 0
theorem isNaN_no (x : ByteArray) (w : World) : Calls Tryz.prog 201 #[.string x] w fun e w' => e = .returned (.bool false) ∧ w' = w := by
  have h : (x.toList == x.toList) = true := by simp
  go_enter Tryz.func201, Tryz.ntmps201
  go_wp2
  go_ret
  simp
theorem compare_says (x y : ByteArray) (w : World) : Calls Tryz.prog 183 #[.string x, .string y] w fun e w' => e = .returned (.int .i64 (cmpB x y)) ∧ w' = w := by
  cases h1 : Op.bytesLess x.toList y.toList
  · cases h2 : Op.bytesLess y.toList x.toList
    · have he : (x.toList == y.toList) = true := by
        rcases bl_tri x.toList y.toList with h | h | h
        · rw [h1] at h; cases h
        · rw [h]; simp
        · rw [h2] at h; cases h
      have HC := hid (show cmpB x y = 0 by unfold cmpB; rw [h1, h2]; rfl)
      rw [HC.out]
      go_enter Tryz.func183, Tryz.ntmps183
      go_wp2_with (go_at_call 201; refine (isNaN_no _ _).mono ?_; rintro e w1 ⟨rfl, rfl⟩)
      go_ret
      exact ⟨rfl, rfl⟩
    · have he : (x.toList == y.toList) = false := by
        cases hh : (x.toList == y.toList)
        · rfl
        · rw [show x.toList = y.toList by simpa using hh, bl_irrefl] at h2; cases h2
      have HC := hid (show cmpB x y = 1 by unfold cmpB; rw [h1, h2]; rfl)
      rw [HC.out]
      go_enter Tryz.func183, Tryz.ntmps183
      go_wp2_with (go_at_call 201; refine (isNaN_no _ _).mono ?_; rintro e w1 ⟨rfl, rfl⟩)
      go_ret
      exact ⟨rfl, rfl⟩
  · have HC := hid (show cmpB x y = -1 by unfold cmpB; rw [h1]; rfl)
    rw [HC.out]
    go_enter Tryz.func183, Tryz.ntmps183
    go_wp2_with (go_at_call 201; refine (isNaN_no _ _).mono ?_; rintro e w1 ⟨rfl, rfl⟩)
    go_ret
    exact ⟨rfl, rfl⟩
/-- The names of two fields, compared. -/
theorem byName_says (x y : ByteArray) (u1 u2 u3 u4 u5 v1 v2 v3 v4 v5 : Value) (w : World) :
    Calls Tryz.prog 147 #[.agg #[.string x, u1, u2, u3, u4, u5], .agg #[.string y, v1, v2, v3, v4, v5]] w fun e w' => e = .returned (.int .i64 (cmpB x y)) ∧ Below w.heap.size w w' := by
  go_enter Tryz.func147, Tryz.ntmps147
  go_wp2_with (go_at_call 183; refine (compare_says _ _ _).mono ?_; rintro e w1 ⟨rfl, rfl⟩)
  go_ret
  first | exact ⟨rfl, Below.refl _ _⟩ | exact ⟨rfl, Joins.below_alloc2 _ _ _⟩
end Go.Proofs.YtflcibmjblioaaaGreatDoor

/-
  The program's reader: a name looked for among fields.
-/
namespace Go.Proofs.YtflcibmjblioaaaGreatDoor
open Go.RowKit
set_option maxRecDepth 100000

theorem cmpB_neg {x y : ByteArray} : cmpB x y < 0 ↔ Lt x y := by
  unfold cmpB Lt
  cases Op.bytesLess x.toList y.toList <;> cases Op.bytesLess y.toList x.toList <;> simp
theorem cmpB_zero {x y : ByteArray} : cmpB x y = 0 ↔ x = y := by
  constructor
  · intro h
    rcases lt_tri x y with q | q | q
    · have := cmpB_neg.2 q; omega
    · exact q
    · unfold Lt at q
      unfold cmpB at h
      rw [q] at h
      cases hh : Op.bytesLess x.toList y.toList
      · rw [hh] at h; simp at h
      · rw [hh] at h; simp at h
  · rintro rfl
    unfold cmpB; rw [bl_irrefl]; rfl
theorem rises_at {l : List (ByteArray × V)} (hp : l.Pairwise fun p q => Lt p.1 q.1) {i j : Nat} {p q : ByteArray × V} (hij : i < j) (hi : l[i]? = some p) (hj : l[j]? = some q) : Lt p.1 q.1 := by
  obtain ⟨h1, rfl⟩ := List.getElem?_eq_some_iff.1 hi
  obtain ⟨h2, rfl⟩ := List.getElem?_eq_some_iff.1 hj
  exact List.pairwise_iff_getElem.1 hp i j h1 h2 hij
/-- Where a name belongs among names that rise, and whether it is there. -/
structure FoundAt (name : ByteArray) (l : List (ByteArray × V)) (t : Nat) (b : Bool) : Prop where
  le : t ≤ l.length
  low : ∀ (i : Nat) (q : ByteArray × V), i < t → l[i]? = some q → Lt q.1 name
  high : ∀ (i : Nat) (q : ByteArray × V), t ≤ i → l[i]? = some q → ¬ Lt q.1 name
  is : b = true ↔ ∃ q, l[t]? = some q ∧ q.1 = name
end Go.Proofs.YtflcibmjblioaaaGreatDoor
