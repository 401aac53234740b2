/-
  Joined: Yl, Vc.
-/
import Derived.Test.YtfkjoppehbmomaaGreatDoorYk
import Derived.Test.YtfkjoppehbmomaaGreatDoorVd

/-
  The program's reader: what a word says.
-/
namespace Go.Proofs.YtfkjoppehbmomaaGreatDoor
open Go.RowKit
set_option maxRecDepth 100000

/-- What the reader leans on, a reader's block at P above all variables. -/
structure Env (m : Int) (P : Nat) (w : World) : Prop where
  rdy : Rdy m w
  syn : IfAt w 2
  rng : IfAt w 3
  lp : 1 < P
  lm : 0 < P
  ls : 2 < P
  lr : 3 < P
theorem KeepBut.upTo {P : Nat} {w w' : World} (h : KeepBut P w w') (hP : P ≤ w.heap.size) : Below P w w' :=
  ⟨h.os, h.tape, h.output, h.size, fun k hk => h.block k (by omega) (by omega)⟩
theorem var_upTo {p : Program} {W W' : World} {B g : Nat} {n : String} {cs : Array Value} (hg : p.globalNamed n = some g) (h : W.var? p n = some cs) (hb : Below B W W') (hB : g < B) : W'.var? p n = some cs := by
  unfold World.var? at h ⊢
  rw [hg] at h ⊢
  simp only [Option.bind_some] at h ⊢
  rw [hb.block g hB]
  exact h
theorem Env.upTo {m : Int} {P : Nat} {w w' : World} (h : Env m P w) (hb : Below P w w') : Env m P w' := by
  obtain ⟨⟨ht, hm⟩, ⟨ev, s1, s2⟩, ⟨er, r1, r2⟩, l1, l2, l3, l4⟩ := h
  refine ⟨⟨var_upTo gPow ht hb l1, ?_⟩, ⟨ev, ?_, s2⟩, ⟨er, ?_, r2⟩, l1, l2, l3, l4⟩
  · exact (hb.cell (p := ⟨_, 0, none⟩) l2).trans hm
  · exact (hb.cell (p := ⟨_, 0, none⟩) l3).trans s1
  · exact (hb.cell (p := ⟨_, 0, none⟩) l4).trans r1
theorem Env.moved {m : Int} {P : Nat} {w w' : World} {s : ByteArray} {k : Nat} (h : Env m P w) (hm : Moved P w w' s k) (hP : P < w.heap.size) : Env m P w' := h.upTo (hm.keep.upTo (by omega))
theorem Env.below {m : Int} {P : Nat} {w w' : World} (h : Env m P w) (hb : Below w.heap.size w w') (hP : P < w.heap.size) : Env m P w' := h.upTo (Joins.below_le hb (by omega))

def wNull : ByteArray := ⟨#[110, 117, 108, 108]⟩
def wTrue : ByteArray := ⟨#[116, 114, 117, 101]⟩
def wFalse : ByteArray := ⟨#[102, 97, 108, 115, 101]⟩
def eB : ByteArray := ⟨#[]⟩
/-- What a word says: kind and number; an error; where it ends. -/
def otherK (s : ByteArray) (k : Nat) : Int × Int × Int × Nat :=
  let W := wordP s k
  let j := k + W.size
  if W = wNull then (0, 0, 0, j) else if W = wTrue then (1, 1, 0, j) else if W = wFalse then (1, 0, 0, j)
  else if objL W.data.toList ≠ 0 ∧ (refP s j).isSome = true then (7, (objL W.data.toList : Nat), 0, (refP s j).getD j)
  else (2, parseN W.data.toList, parseE W.data.toList, j)
theorem word_ne {a b : ByteArray} (h : a ≠ b) : (a.toList == b.toList) = false := by rw [word_beq]; exact decide_eq_false h
theorem word_at {a b : ByteArray} (h : a = b) : (a.toList == b.toList) = true := by rw [word_beq]; exact decide_eq_true h
theorem box5 {w : World} {b : Nat} {t : TypeId} {k n : Int} {s : ByteArray} (h : At w b t (vc k n s)) :
    (w.cell? ⟨b, 0, none⟩ = some (.int .i64 k) ∧ w.cell? ⟨b, 1, none⟩ = some (.int .i64 n) ∧ w.cell? ⟨b, 2, none⟩ = some (.string s) ∧ w.cell? ⟨b, 3, none⟩ = some (.slice none 0 0) ∧ w.cell? ⟨b, 4, none⟩ = some (.slice none 0 0)) ∧
    (w.frozen? ⟨b, 0, none⟩ = false ∧ w.frozen? ⟨b, 1, none⟩ = false ∧ w.frozen? ⟨b, 2, none⟩ = false ∧ w.frozen? ⟨b, 3, none⟩ = false ∧ w.frozen? ⟨b, 4, none⟩ = false) :=
  ⟨⟨At.cell h 0, At.cell h 1, At.cell h 2, At.cell h 3, At.cell h 4⟩, At.free h 0, At.free h 1, At.free h 2, At.free h 3, At.free h 4⟩
theorem At.vc5 {w : World} {b : Nat} {t : TypeId} {k n : Int} {s : ByteArray} (h : At w b t (vc k n s)) (k' n' : Int) (s' : ByteArray) :
    At (((((w.setCell ⟨b, 0, none⟩ (.int .i64 k')).setCell ⟨b, 1, none⟩ (.int .i64 n')).setCell ⟨b, 2, none⟩ (.string s')).setCell ⟨b, 3, none⟩ (.slice none 0 0)).setCell ⟨b, 4, none⟩ (.slice none 0 0)) b t (vc k' n' s') := by
  have h0 := heap_setCell_same w b 0 _ _ (.int .i64 k') h
  have h1 := heap_setCell_same _ b 1 _ _ (.int .i64 n') h0
  have h2 := heap_setCell_same _ b 2 _ _ (.string s') h1
  have h3 := heap_setCell_same _ b 3 _ _ (.slice none 0 0) h2
  exact heap_setCell_same _ b 4 _ _ (.slice none 0 0) h3
theorem Moved.set5 {P : Nat} {a b : World} {s : ByteArray} {k : Nat} (h : Moved P a b s k) {g : Nat} (hg : a.heap.size ≤ g) (hP : P < a.heap.size) (v0 v1 v2 v3 v4 : Value) :
    Moved P a (((((b.setCell ⟨g, 0, none⟩ v0).setCell ⟨g, 1, none⟩ v1).setCell ⟨g, 2, none⟩ v2).setCell ⟨g, 3, none⟩ v3).setCell ⟨g, 4, none⟩ v4) s k :=
  ((((h.setNew hg hP _ _).setNew hg hP _ _).setNew hg hP _ _).setNew hg hP _ _).setNew hg hP _ _
/-- A reader that has come to j, and a new value's block that is still empty. -/
structure Boxed (P : Nat) (w wr : World) (s : ByteArray) (j : Nat) : Prop where
  mov : Moved P w wr s j
  lt : P < w.heap.size
  box : At wr w.heap.size 26 (vc 0 0 ⟨#[]⟩)
theorem Boxed.new {P : Nat} {w : World} {s : ByteArray} {k : Nat} (hR : RdAt w P s k) : Boxed P w (w.alloc (.cells (vc 0 0 ⟨#[]⟩) 26)) s k :=
  ⟨(Moved.refl hR).below (At.lt hR) (below_box _ _), At.lt hR, At.new _ _ _ rfl⟩
theorem Boxed.moved {P : Nat} {w a b : World} {s : ByteArray} {j i : Nat} (h : Boxed P w a s j) (m : Moved P a b s i) : Boxed P w b s i :=
  ⟨h.mov.trans m, h.lt, m.keep.at h.box (by have := h.lt; omega)⟩
theorem Boxed.below {P : Nat} {w a b : World} {s : ByteArray} {j : Nat} (h : Boxed P w a s j) (hb : Below a.heap.size a b) : Boxed P w b s j :=
  h.moved ⟨.of hb, At.later h.mov.at_ hb⟩
theorem Boxed.env {m : Int} {P : Nat} {w a : World} {s : ByteArray} {j : Nat} (h : Boxed P w a s j) (hE : Env m P w) : Env m P a := hE.moved h.mov h.lt
theorem Boxed.fill {P : Nat} {w a : World} {s : ByteArray} {j : Nat} (h : Boxed P w a s j) (k n : Int) (t : ByteArray) :
    let wf := ((((a.setCell ⟨w.heap.size, 0, none⟩ (.int .i64 k)).setCell ⟨w.heap.size, 1, none⟩ (.int .i64 n)).setCell ⟨w.heap.size, 2, none⟩ (.string t)).setCell ⟨w.heap.size, 3, none⟩ (.slice none 0 0)).setCell ⟨w.heap.size, 4, none⟩ (.slice none 0 0)
    Moved P w wf s j ∧ At wf w.heap.size 26 (vc k n t) :=
  ⟨h.mov.set5 (Nat.le_refl _) h.lt _ _ _ _ _, h.box.vc5 k n t⟩
theorem isNull (W : ByteArray) : (W.toList == [110, 117, 108, 108]) = decide (W = wNull) := by rw [← word_beq, show wNull.toList = [110, 117, 108, 108] by rw [ByteArray.toList_eq]; rfl]
theorem isTrue (W : ByteArray) : (W.toList == [116, 114, 117, 101]) = decide (W = wTrue) := by rw [← word_beq, show wTrue.toList = [116, 114, 117, 101] by rw [ByteArray.toList_eq]; rfl]
theorem isFalse (W : ByteArray) : (W.toList == [102, 97, 108, 115, 101]) = decide (W = wFalse) := by rw [← word_beq, show wFalse.toList = [102, 97, 108, 115, 101] by rw [ByteArray.toList_eq]; rfl]
theorem yWordLe {s : ByteArray} {k : Nat} (hk : k ≤ s.size) : k + (wordP s k).size ≤ s.size := by have := (wordP_size hk).2; omega
set_option maxHeartbeats 4000000 in
theorem yOther (m : Int) (P : Nat) (s : ByteArray) (k : Nat) (w : World) (hE : Env m P w) (hR : RdAt w P s k) (hk : k ≤ s.size) (hs : s.size ≤ 100000) :
    Calls Tryz.prog 41 #[.pointer (some ⟨P, 0, none⟩)] w fun e w' =>
      e = .returned (.tuple #[.agg (vc (otherK s k).1 (otherK s k).2.1 eB), errN (otherK s k).2.2.1]) ∧ Moved P w w' s (otherK s k).2.2.2 := by
  have hPl : P < w.heap.size := At.lt hR
  have hle := yWordLe hk
  obtain ⟨W, hW⟩ : ∃ W, wordP s k = W := ⟨_, rfl⟩
  have HW := hid hW
  rw [hW] at hle
  obtain ⟨K, hK⟩ : ∃ K, otherK s k = K := ⟨_, rfl⟩
  rw [hK]
  unfold otherK at hK
  rw [hW] at hK
  have HK := hid hK
  clear hK
  have hyw := fun (w : World) (h : RdAt w P s k) => yWordN P s W k w h hk hs hW
  clear hW
  have hX0 := Boxed.new hR
  by_cases h1 : W = wNull
  · have HK' := hid (show (0, 0, 0, k + W.size) = K by rw [← HK.out, if_pos h1])
    rw [← HK'.out]
    have ep := (isNull W).trans (decide_eq_true h1)
    clear HK h1
    go_enter Tryz.func41, Tryz.ntmps41
    go_wp2_with (go_at_call 66; go_must (refine (hyw _ hX0.mov.at_).mono ?_); rintro e w1 ⟨rfl, hm1⟩; (have hX1 := hX0.moved hm1); obtain ⟨⟨bx0, bx1, bx2, bx3, bx4⟩, bxf0, bxf1, bxf2, bxf3, bxf4⟩ := box5 hX1.box)
    obtain ⟨hM5, hB5⟩ := hX1.fill 0 0 ⟨#[]⟩
    generalize World.setCell _ _ _ = wf at hB5 hM5 ⊢
    obtain ⟨⟨cx0, cx1, cx2, cx3, cx4⟩, _⟩ := box5 hB5
    refine bodyPost_ret (v := .tuple #[.agg (vc 0 0 ⟨#[]⟩), errN 0]) (by simp [results, Tryz.results41, go_sem, cx0, cx1, cx2, cx3, cx4]; first | exact ⟨rfl, rfl⟩ | rfl) rfl ⟨rfl, hM5⟩
  have en1 := (isNull W).trans (decide_eq_false h1)
  by_cases h2 : W = wTrue
  · have HK' := hid (show (1, 1, 0, k + W.size) = K by rw [← HK.out, if_neg h1, if_pos h2])
    rw [← HK'.out]
    have ep := (isTrue W).trans (decide_eq_true h2)
    clear HK h2
    go_enter Tryz.func41, Tryz.ntmps41
    go_wp2_with (go_at_call 66; go_must (refine (hyw _ hX0.mov.at_).mono ?_); rintro e w1 ⟨rfl, hm1⟩; (have hX1 := hX0.moved hm1); obtain ⟨⟨bx0, bx1, bx2, bx3, bx4⟩, bxf0, bxf1, bxf2, bxf3, bxf4⟩ := box5 hX1.box)
    obtain ⟨hM5, hB5⟩ := hX1.fill 1 1 ⟨#[]⟩
    generalize World.setCell _ _ _ = wf at hB5 hM5 ⊢
    obtain ⟨⟨cx0, cx1, cx2, cx3, cx4⟩, _⟩ := box5 hB5
    refine bodyPost_ret (v := .tuple #[.agg (vc 1 1 ⟨#[]⟩), errN 0]) (by simp [results, Tryz.results41, go_sem, cx0, cx1, cx2, cx3, cx4]; first | exact ⟨rfl, rfl⟩ | rfl) rfl ⟨rfl, hM5⟩
  have en2 := (isTrue W).trans (decide_eq_false h2)
  by_cases h3 : W = wFalse
  · have HK' := hid (show (1, 0, 0, k + W.size) = K by rw [← HK.out, if_neg h1, if_neg h2, if_pos h3])
    rw [← HK'.out]
    have ep := (isFalse W).trans (decide_eq_true h3)
    clear HK h3
    go_enter Tryz.func41, Tryz.ntmps41
    go_wp2_with (go_at_call 66; go_must (refine (hyw _ hX0.mov.at_).mono ?_); rintro e w1 ⟨rfl, hm1⟩; (have hX1 := hX0.moved hm1); obtain ⟨⟨bx0, bx1, bx2, bx3, bx4⟩, bxf0, bxf1, bxf2, bxf3, bxf4⟩ := box5 hX1.box)
    obtain ⟨hM5, hB5⟩ := hX1.fill 1 0 ⟨#[]⟩
    generalize World.setCell _ _ _ = wf at hB5 hM5 ⊢
    obtain ⟨⟨cx0, cx1, cx2, cx3, cx4⟩, _⟩ := box5 hB5
    refine bodyPost_ret (v := .tuple #[.agg (vc 1 0 ⟨#[]⟩), errN 0]) (by simp [results, Tryz.results41, go_sem, cx0, cx1, cx2, cx3, cx4]; first | exact ⟨rfl, rfl⟩ | rfl) rfl ⟨rfl, hM5⟩
  have en3 := (isFalse W).trans (decide_eq_false h3)
  have HK1 := hid (show (if objL W.data.toList ≠ 0 ∧ (refP s (k + W.size)).isSome = true then ((7 : Int), ((objL W.data.toList : Nat) : Int), (0 : Int), (refP s (k + W.size)).getD (k + W.size)) else (2, parseN W.data.toList, parseE W.data.toList, k + W.size)) = K by rw [← HK.out, if_neg h1, if_neg h2, if_neg h3])
  have hobj := fun (w1 : World) (h : Env m P w1) => yObject W w1 (by omega) h.syn h.rng
  clear HK h1 h2 h3
  generalize objL W.data.toList = n at HK1 hobj
  have hpar := fun (w : World) (h : Rdy m w) => parse_rdy m W w h (by omega)
  generalize parseN W.data.toList = pn at HK1 hpar
  generalize parseE W.data.toList = pe at HK1 hpar
  have href := fun (w : World) (h : RdAt w P s (k + W.size)) => yRefers P s (k + W.size) w h (by omega) hs
  by_cases hn : n = 0
  · subst hn
    have HK' := hid (show (2, pn, pe, k + W.size) = K by rw [← HK1.out, if_neg (by simp)])
    rw [← HK'.out]
    clear HK1
    go_enter Tryz.func41, Tryz.ntmps41
    go_wp2_with (first | (go_at_call 66; go_must (refine (hyw _ hX0.mov.at_).mono ?_); rintro e w1 ⟨rfl, hm1⟩; (have hX1 := hX0.moved hm1); obtain ⟨⟨bx0, bx1, bx2, bx3, bx4⟩, bxf0, bxf1, bxf2, bxf3, bxf4⟩ := box5 hX1.box) | (go_at_call 76; go_must (refine (hobj _ (hX1.env hE)).mono ?_); rintro e w2 ⟨rfl, hb2⟩; (have hX2 := hX1.below hb2); obtain ⟨⟨by0, by1, by2, by3, by4⟩, byf0, byf1, byf2, byf3, byf4⟩ := box5 hX2.box) | (go_at_call 78; go_must (refine (hpar _ (hX2.env hE).rdy).mono ?_); rintro e w4 ⟨rfl, hb4, hr4⟩; (have hX4 := hX2.below hb4); obtain ⟨⟨bu0, bu1, bu2, bu3, bu4⟩, buf0, buf1, buf2, buf3, buf4⟩ := box5 hX4.box))
    obtain ⟨hM5, hB5⟩ := hX4.fill 2 pn ⟨#[]⟩
    generalize World.setCell _ _ _ = wf at hB5 hM5 ⊢
    obtain ⟨⟨cx0, cx1, cx2, cx3, cx4⟩, _⟩ := box5 hB5
    refine bodyPost_ret (v := .tuple #[.agg (vc 2 pn ⟨#[]⟩), errN pe]) (by simp [results, Tryz.results41, go_sem, cx0, cx1, cx2, cx3, cx4]; first | exact ⟨rfl, rfl⟩ | rfl) rfl ⟨rfl, hM5⟩
  have hn0 : (0 : Int) < (n : Int) := by omega
  cases hr : (refP s (k + W.size)).isSome
  · have HK' := hid (show (2, pn, pe, k + W.size) = K by rw [← HK1.out, if_neg (by rw [hr]; simp)])
    rw [← HK'.out]
    have hj : (refP s (k + W.size)).getD (k + W.size) = k + W.size := by
      cases h : refP s (k + W.size) with
      | none => rfl
      | some x => rw [h] at hr; simp at hr
    rw [hr, hj] at href
    clear HK1 hr hj
    go_enter Tryz.func41, Tryz.ntmps41
    go_wp2_with (first | (go_at_call 66; go_must (refine (hyw _ hX0.mov.at_).mono ?_); rintro e w1 ⟨rfl, hm1⟩; (have hX1 := hX0.moved hm1); obtain ⟨⟨bx0, bx1, bx2, bx3, bx4⟩, bxf0, bxf1, bxf2, bxf3, bxf4⟩ := box5 hX1.box) | (go_at_call 76; go_must (refine (hobj _ (hX1.env hE)).mono ?_); rintro e w2 ⟨rfl, hb2⟩; (have hX2 := hX1.below hb2); obtain ⟨⟨by0, by1, by2, by3, by4⟩, byf0, byf1, byf2, byf3, byf4⟩ := box5 hX2.box) | (go_at_call 77; go_must (refine (href _ hX2.mov.at_).mono ?_); rintro e w3 ⟨rfl, hm3⟩; (have hX3 := hX2.moved hm3); obtain ⟨⟨bz0, bz1, bz2, bz3, bz4⟩, bzf0, bzf1, bzf2, bzf3, bzf4⟩ := box5 hX3.box) | (go_at_call 78; go_must (refine (hpar _ (hX3.env hE).rdy).mono ?_); rintro e w4 ⟨rfl, hb4, hr4⟩; (have hX4 := hX3.below hb4); obtain ⟨⟨bu0, bu1, bu2, bu3, bu4⟩, buf0, buf1, buf2, buf3, buf4⟩ := box5 hX4.box))
    obtain ⟨hM5, hB5⟩ := hX4.fill 2 pn ⟨#[]⟩
    generalize World.setCell _ _ _ = wf at hB5 hM5 ⊢
    obtain ⟨⟨cx0, cx1, cx2, cx3, cx4⟩, _⟩ := box5 hB5
    refine bodyPost_ret (v := .tuple #[.agg (vc 2 pn ⟨#[]⟩), errN pe]) (by simp [results, Tryz.results41, go_sem, cx0, cx1, cx2, cx3, cx4]; first | exact ⟨rfl, rfl⟩ | rfl) rfl ⟨rfl, hM5⟩
  · have HK' := hid (show (7, (n : Int), 0, (refP s (k + W.size)).getD (k + W.size)) = K by rw [← HK1.out, if_pos ⟨hn, hr⟩])
    rw [← HK'.out]
    rw [hr] at href
    generalize (refP s (k + W.size)).getD (k + W.size) = j at href ⊢
    clear HK1 hr HK'
    go_enter Tryz.func41, Tryz.ntmps41
    go_wp2_with (first | (go_at_call 66; go_must (refine (hyw _ hX0.mov.at_).mono ?_); rintro e w1 ⟨rfl, hm1⟩; (have hX1 := hX0.moved hm1); obtain ⟨⟨bx0, bx1, bx2, bx3, bx4⟩, bxf0, bxf1, bxf2, bxf3, bxf4⟩ := box5 hX1.box) | (go_at_call 76; go_must (refine (hobj _ (hX1.env hE)).mono ?_); rintro e w2 ⟨rfl, hb2⟩; (have hX2 := hX1.below hb2); obtain ⟨⟨by0, by1, by2, by3, by4⟩, byf0, byf1, byf2, byf3, byf4⟩ := box5 hX2.box) | (go_at_call 77; go_must (refine (href _ hX2.mov.at_).mono ?_); rintro e w3 ⟨rfl, hm3⟩; (have hX3 := hX2.moved hm3); obtain ⟨⟨bz0, bz1, bz2, bz3, bz4⟩, bzf0, bzf1, bzf2, bzf3, bzf4⟩ := box5 hX3.box))
    obtain ⟨hM5, hB5⟩ := hX3.fill 7 n ⟨#[]⟩
    generalize World.setCell _ _ _ = wf at hB5 hM5 ⊢
    obtain ⟨⟨cx0, cx1, cx2, cx3, cx4⟩, _⟩ := box5 hB5
    refine bodyPost_ret (v := .tuple #[.agg (vc 7 n ⟨#[]⟩), errN 0]) (by simp [results, Tryz.results41, go_sem, cx0, cx1, cx2, cx3, cx4]; first | exact ⟨rfl, rfl⟩ | rfl) rfl ⟨rfl, hM5⟩
end Go.Proofs.YtfkjoppehbmomaaGreatDoor

/-
  Contracts over values that only look: whether one is light (some answer), how many parts it has and how deep it is, names.
-/
namespace Go.Proofs.YtfkjoppehbmomaaGreatDoor
open Go.RowKit
set_option maxRecDepth 100000

set_option maxHeartbeats 1000000 in
theorem parts_step (d : Nat)
    (ih : ∀ (v : V) (cs : List Value) (w : World), RepN d w v cs → v.cnt ≤ 1048576 → Calls Tryz.prog 53 #[.agg cs.toArray] w fun e w' => e = .returned (.tuple #[.int .i64 (v.cnt : Int), .int .i64 (v.dep : Int)]) ∧ Below w.heap.size w w')
    (v : V) (cs : List Value) (w : World) (hv : RepN (d + 1) w v cs) (hb : v.cnt ≤ 1048576) :
    Calls Tryz.prog 53 #[.agg cs.toArray] w fun e w' => e = .returned (.tuple #[.int .i64 (v.cnt : Int), .int .i64 (v.dep : Int)]) ∧ Below w.heap.size w w' := by
  obtain ⟨al, af, cl, cf, rfl, ⟨hs, hl, hf⟩, hL, hF⟩ := hv
  unfold maxLen at hs hl hf
  have HL := hid hL
  have HF := hid hF
  clear hL hF
  have hdc := dep_le_cnt v
  rw [cnt_eq, dep_eq] at *
  generalize hCL : cntL v.l = CL at *
  generalize hCF : cntF v.f = CF at *
  generalize hDL : depL v.l = DL at *
  generalize hDF : depF v.f = DF at *
  have HC := hid (And.intro hCL (And.intro hCF (And.intro hDL hDF)))
  clear hCL hCF hDL hDF
  go_enter Tryz.func53, Tryz.ntmps53
  go_wp2_with fail
  go_loopw [4, 5, 6] (fun t u i wr => ∃ j z y : Nat, i = .int .i64 j ∧ t = .int .i64 z ∧ u = .int .i64 y ∧ j ≤ v.l.length ∧ (z = 1 + cntL (v.l.take j) ∧ y = depL (v.l.take j)) ∧ BoxV wr w.heap.size v al af cl cf ∧ Below w.heap.size w wr) (fun _ _ i _ => v.l.length - (intOf i).toNat)
  case atStart => exact ⟨0, 1, 0, rfl, rfl, rfl, Nat.zero_le _, by simp [cntL, depL], At.new _ _ _ rfl, by go_grown⟩
  case round =>
    obtain ⟨j, z, y, rfl, rfl, rfl, hj, hzy, hA, hB⟩ := hrel
    have hz1 : z ≤ 1 + CL := by have := cntL_take_le v.l j; have := HC.out.1; omega
    have hy1 : y ≤ DL := by have := depL_take_le v.l j; have := HC.out.2.2.1; omega
    have HZ := hid hzy
    clear hzy
    have mc := hA.cell
    have mz := hA.lt
    by_cases hjl : j < v.l.length
    · have hjl' : (j : Int) < v.l.length := by omega
      obtain ⟨b, off, c, rfl, hbl, hc, hr⟩ := HL.out j v.l[j] (List.getElem?_eq_getElem hjl)
      have T1 := hid (cntL_take v.l j v.l[j] (List.getElem?_eq_getElem hjl))
      have T2 := hid (depL_take v.l j v.l[j] (List.getElem?_eq_getElem hjl))
      have hc1 : z + v.l[j].cnt ≤ 1 + CL := by have := cntL_take_le v.l (j + 1); have := HC.out.1; have := T1.out; have := HZ.out; omega
      have hd1 : max y v.l[j].dep ≤ DL := by have := depL_take_le v.l (j + 1); have := HC.out.2.2.1; have := T2.out; have := HZ.out; omega
      have hr' := hr.later (hB : Below w.heap.size w wr)
      have hbr : b < wr.heap.size := Nat.lt_of_lt_of_le hbl hB.size
      obtain ⟨k1, n1, s1, a1, l1, c1, a2, l2, c2, rfl, g0, g1, g2, g3, g4⟩ := rep_cells hr' (hc.later hbl hB)
      have HR := hid hr'
      clear hr hr' hc
      generalize hX : v.l[j] = X at *
      generalize hXc : X.cnt = xc at *
      generalize hXd : X.dep = xd at *
      have HX := hid (And.intro hXc hXd)
      clear hX hXc hXd
      go_wp2_with (go_at_call 53; refine (ih X _ _ HR.out (by have := HX.out; omega)).mono ?_; rw [HX.out.1, HX.out.2]; rintro e w1 ⟨rfl, hb1⟩)
      all_goals go_roundw
      case rel =>
        refine ⟨j + 1, z + xc, max y xd, by go_num, by go_num, by go_num, by omega, ?_, hA.later hb1, hB.trans (hb1.mono hB.size)⟩
        have := HZ.out; have := T1.out; have := T2.out
        omega
      case measure => simp [intOf]; omega
    · have hjl' : ¬ (j : Int) < v.l.length := by omega
      have hje : j = v.l.length := by omega
      have HZ' : z = 1 + CL ∧ y = DL := by have h1 := HZ.out; have h2 := HC.out; rw [hje, List.take_length] at h1; omega
      obtain ⟨hz2, hy2⟩ := HZ'
      subst hz2
      have hy3 := hy2.symm
      subst hy3
      clear HZ hz1 hy1
      go_wp2_with fail
      go_loopw [4, 5, 9] (fun t u i wr => ∃ j z y : Nat, i = .int .i64 j ∧ t = .int .i64 z ∧ u = .int .i64 y ∧ j ≤ v.f.length ∧ (z = 1 + CL + cntF (v.f.take j) ∧ y = max DL (depF (v.f.take j))) ∧ BoxV wr w.heap.size v al af cl cf ∧ Below w.heap.size w wr) (fun _ _ i _ => v.f.length - (intOf i).toNat)
      case atStart => exact ⟨0, 1 + CL, DL, rfl, rfl, rfl, Nat.zero_le _, by simp [cntF, depF], hA, hB⟩
      case round =>
        clear hA hB mc mz
        obtain ⟨p, z, y, rfl, rfl, rfl, hp, hzy, hA, hB⟩ := hrel
        have hz1 : z ≤ 1 + CL + CF := by have := cntF_take_le v.f p; have := HC.out.2.1; omega
        have hy1 : y ≤ max DL DF := by have := depF_take_le v.f p; have := HC.out.2.2.2; omega
        have HZ := hid hzy
        clear hzy
        have mc := hA.cell
        have mz := hA.lt
        by_cases hpl : p < v.f.length
        · have hpl' : (p : Int) < v.f.length := by omega
          obtain ⟨b, off, c, rfl, hbl, hnm, hcn, hc, hr⟩ := HF.out p v.f[p] (List.getElem?_eq_getElem hpl)
          have T1 := hid (cntF_take v.f p v.f[p] (List.getElem?_eq_getElem hpl))
          have T2 := hid (depF_take v.f p v.f[p] (List.getElem?_eq_getElem hpl))
          have hc1 : z + v.f[p].2.cnt ≤ 1 + CL + CF := by have := cntF_take_le v.f (p + 1); have := HC.out.2.1; have := T1.out; have := HZ.out; omega
          have hd1 : max y v.f[p].2.dep ≤ max DL DF := by have := depF_take_le v.f (p + 1); have := HC.out.2.2.2; have := T2.out; have := HZ.out; omega
          have hr' := hr.later (hB : Below w.heap.size w wr)
          have hbr : b < wr.heap.size := Nat.lt_of_lt_of_le hbl hB.size
          obtain ⟨k1, n1, s1, a1, l1, c1, a2, l2, c2, rfl, g0, g1, g2, g3, g4⟩ := rep_cells hr' (hc.later hbl hB)
          have HR := hid hr'
          clear hr hr' hc hcn hnm
          generalize hX : v.f[p].2 = X at *
          generalize hXc : X.cnt = xc at *
          generalize hXd : X.dep = xd at *
          have HX := hid (And.intro hXc hXd)
          clear hX hXc hXd
          go_wp2_with (go_at_call 53; refine (ih X _ _ HR.out (by have := HX.out; omega)).mono ?_; rw [HX.out.1, HX.out.2]; rintro e w1 ⟨rfl, hb1⟩)
          all_goals go_roundw
          case rel =>
            refine ⟨p + 1, z + xc, max y xd, by go_num, by go_num, by go_num, by omega, ?_, hA.later hb1, hB.trans (hb1.mono hB.size)⟩
            have := HZ.out; have := T1.out; have := T2.out
            omega
          case measure => simp [intOf]; omega
        · have hpl' : ¬ (p : Int) < v.f.length := by omega
          have hpe : p = v.f.length := by omega
          have HZ' : z = 1 + CL + CF ∧ y = max DL DF := by have h1 := HZ.out; have h2 := HC.out; rw [hpe, List.take_length] at h1; omega
          obtain ⟨rfl, rfl⟩ := HZ'
          clear HZ hz1 hy1
          go_wp2_with fail
          go_ret2
          exact ⟨by congr 3; go_num, hB⟩
theorem parts_says (d : Nat) : ∀ (v : V) (cs : List Value) (w : World), RepN d w v cs → v.cnt ≤ 1048576 → Calls Tryz.prog 53 #[.agg cs.toArray] w fun e w' => e = .returned (.tuple #[.int .i64 (v.cnt : Int), .int .i64 (v.dep : Int)]) ∧ Below w.heap.size w w' := by
  induction d with
  | zero => intro v cs w h; exact h.elim
  | succ d ih => exact fun v cs w h => parts_step d ih v cs w h
end Go.Proofs.YtfkjoppehbmomaaGreatDoor
