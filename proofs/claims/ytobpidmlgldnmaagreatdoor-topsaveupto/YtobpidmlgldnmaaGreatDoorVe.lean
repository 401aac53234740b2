/-
  Joined: Yk, Yl, Ve.
-/
import Derived.Test.YtobpidmlgldnmaaGreatDoorYj
import Derived.Test.YtobpidmlgldnmaaGreatDoorFh
import Derived.Lib.AtoiAllCases
import Derived.Lib.ItoaNum
import Derived.Lib.AtoiErrMem
import Derived.Test.YtobpidmlgldnmaaGreatDoorYd
import Derived.Test.YtobpidmlgldnmaaGreatDoorVh

/-
  The program's reader: the number of an object.
-/
namespace Go.Proofs.YtobpidmlgldnmaaGreatDoor
open Go.RowKit
set_option maxRecDepth 100000

/-- The number of an object that these bytes tell; else 0. -/
def objL : List UInt8 → Nat
  | [a] => if 49 ≤ a.toNat ∧ a.toNat ≤ 57 then a.toNat - 48 else 0
  | [a, b] => if 49 ≤ a.toNat ∧ a.toNat ≤ 57 ∧ 48 ≤ b.toNat ∧ b.toNat ≤ 57 ∧ (a.toNat - 48) * 10 + (b.toNat - 48) ≤ 60 then (a.toNat - 48) * 10 + (b.toNat - 48) else 0
  | _ => 0
theorem obj_dec {n : Nat} (h1 : 1 ≤ n) (h2 : n ≤ 60) : objL (Lib.decDigits n) = n := by
  by_cases h : n < 10
  · rw [Lib.decDigits_one h]
    have : (UInt8.ofNat (48 + n)).toNat = 48 + n := by simp; omega
    simp only [objL, this]
    rw [if_pos (by omega)]; omega
  · rw [Lib.decDigits_two h (by omega)]
    have e1 : (UInt8.ofNat (48 + n / 10)).toNat = 48 + n / 10 := by simp; omega
    have e2 : (UInt8.ofNat (48 + n % 10)).toNat = 48 + n % 10 := by simp; omega
    simp only [objL, e1, e2]
    rw [if_pos (by omega)]; omega
theorem obj_pos {l : List UInt8} (h : objL l ≠ 0) : 1 ≤ objL l ∧ objL l ≤ 60 ∧ Lib.decDigits (objL l) = l ∧ Lib.atoiAll l = .ok (objL l : Int) := by
  match l, h with
  | [a], h =>
    by_cases c : 49 ≤ a.toNat ∧ a.toNat ≤ 57
    · have e : objL [a] = a.toNat - 48 := if_pos c
      rw [e]
      refine ⟨by omega, by omega, ?_, ?_⟩
      · rw [Lib.decDigits_one (by omega), show 48 + (a.toNat - 48) = a.toNat by omega]; simp
      · rw [Lib.atoiAll_plain a [] (by omega) (by omega)]
        have : Lib.parseMag [a] = .ok (a.toNat - 48) := by
          simp only [Lib.parseMag, Lib.parseUint10]
          rw [if_neg (by simp), if_pos (by omega), if_neg (by omega), if_neg (by omega)]
          simp
        rw [this]
        simp only [Lib.signless]
        rw [if_neg (by omega)]
    · exact absurd (if_neg c) h
  | [a, b], h =>
    by_cases c : 49 ≤ a.toNat ∧ a.toNat ≤ 57 ∧ 48 ≤ b.toNat ∧ b.toNat ≤ 57 ∧ (a.toNat - 48) * 10 + (b.toNat - 48) ≤ 60
    · have e : objL [a, b] = (a.toNat - 48) * 10 + (b.toNat - 48) := if_pos c
      rw [e]
      refine ⟨by omega, by omega, ?_, ?_⟩
      · rw [Lib.decDigits_two (by omega) (by omega), show 48 + ((a.toNat - 48) * 10 + (b.toNat - 48)) / 10 = a.toNat by omega, show 48 + ((a.toNat - 48) * 10 + (b.toNat - 48)) % 10 = b.toNat by omega]; simp
      · rw [Lib.atoiAll_plain a [b] (by omega) (by omega)]
        have : Lib.parseMag [a, b] = .ok ((a.toNat - 48) * 10 + (b.toNat - 48)) := by
          simp only [Lib.parseMag, Lib.parseUint10]
          rw [if_neg (by simp), if_pos (by omega), if_neg (by omega), if_neg (by omega), if_pos (by omega), if_neg (by omega), if_neg (by omega)]
          simp
        rw [this]
        simp only [Lib.signless]
        rw [if_neg (by omega)]
    · exact absurd (if_neg c) h

/-- A variable that holds an error, or none. -/
def IfAt (w : World) (b : Nat) : Prop := ∃ ev, w.cell? ⟨b, 0, none⟩ = some ev ∧ (ev = .nilIface ∨ ∃ te pe, ev = .iface te pe)
theorem IfAt.later {w w' : World} {b : Nat} (h : IfAt w b) (hb : Below w.heap.size w w') : IfAt w' b := by
  obtain ⟨ev, h1, h2⟩ := h
  exact ⟨ev, cell_later hb h1, h2⟩
theorem bel_bytes {w w' : World} (h : w' = w ∨ ∃ t, w' = Lib.bytesWorld w 5 t) : Below w.heap.size w w' := by
  rcases h with rfl | ⟨t, rfl⟩
  · exact Below.refl _ _
  · exact Lib.bytesWorld_below _ _ _
theorem digits_ba {n : Nat} {s : ByteArray} : (⟨(Lib.decDigits n).toArray⟩ : ByteArray) = s ↔ Lib.decDigits n = s.data.toList := by
  constructor
  · intro h; rw [← h]
  · intro h; rw [h]
set_option maxHeartbeats 2000000 in
theorem yObject (s : ByteArray) (w : World) (hs : s.size ≤ 100000) (h2 : IfAt w 1) (h3 : IfAt w 2) :
    Calls Tryz.prog 120 #[.string s] w fun e w' => e = .returned (.int .i64 (objL s.data.toList : Nat)) ∧ Below w.heap.size w w' := by
  have hz : Lib.atoiAll s.data.toList ≠ .ok (objL s.data.toList : Int) → objL s.data.toList = 0 := fun h => Decidable.by_contra fun c => h (obj_pos c).2.2.2
  rcases ha : Lib.atoiAll s.data.toList with v | _ | _
  · have hc := Tryz.strconv_Atoi_ok s (by omega) v ha w
    by_cases hv : 1 ≤ v ∧ v ≤ 60
    · obtain ⟨n, rfl⟩ : ∃ n : Nat, v = n := ⟨v.toNat, by omega⟩
      have hi := fun w => Tryz.strconv_Itoa_small n (by omega) w
      by_cases he : Lib.decDigits n = s.data.toList
      · have ho : objL s.data.toList = n := by rw [← he]; exact obj_dec (by omega) (by omega)
        rw [ho]
        have hq : (⟨(Lib.decDigits n).toArray⟩ : ByteArray) = s := digits_ba.2 he
        rw [hq] at hi
        have Hhi := hid ha
        clear ha hz ho he hq
        go_enter Tryz.func120, Tryz.ntmps120
        go_wp2_with (first
          | (go_at_call 137; refine hc.mono ?_; rintro e w1 ⟨rfl, hw1⟩)
          | (go_at_call 138; refine (hi _).mono ?_; rintro e w2 ⟨rfl, rfl⟩))
        go_ret
        exact ⟨rfl, bel_bytes hw1⟩
      · have ho : objL s.data.toList = 0 := Decidable.by_contra fun c => by
          obtain ⟨_, _, h3, h4⟩ := obj_pos c
          rw [ha] at h4
          injection h4 with h4
          have : n = objL s.data.toList := by omega
          exact he (by rw [this]; exact h3)
        rw [ho]
        have hq : ((⟨(Lib.decDigits n).toArray⟩ : ByteArray).toList == s.toList) = false := by
          rw [word_beq]; exact decide_eq_false fun h => he (digits_ba.1 h)
        generalize (⟨(Lib.decDigits n).toArray⟩ : ByteArray) = D at hq hi
        clear ha hz ho he
        go_enter Tryz.func120, Tryz.ntmps120
        go_wp2_with (first
          | (go_at_call 137; refine hc.mono ?_; rintro e w1 ⟨rfl, hw1⟩)
          | (go_at_call 138; refine (hi _).mono ?_; rintro e w2 ⟨rfl, rfl⟩))
        go_ret
        exact ⟨rfl, bel_bytes hw1⟩
    · have ho : objL s.data.toList = 0 := Decidable.by_contra fun c => by
        obtain ⟨h1, h2, _, h4⟩ := obj_pos c
        rw [ha] at h4
        injection h4 with h4
        omega
      rw [ho]
      clear ha hz ho
      by_cases hv1 : v < 1
      · go_enter Tryz.func120, Tryz.ntmps120
        go_wp2_with (go_at_call 137; refine hc.mono ?_; rintro e w1 ⟨rfl, hw1⟩)
        go_ret
        exact ⟨rfl, bel_bytes hw1⟩
      · have hv2 : 60 < v := by omega
        go_enter Tryz.func120, Tryz.ntmps120
        go_wp2_with (go_at_call 137; refine hc.mono ?_; rintro e w1 ⟨rfl, hw1⟩)
        go_ret
        exact ⟨rfl, bel_bytes hw1⟩
  · rw [hz (by rw [ha]; simp)]
    obtain ⟨ev, h21, h22⟩ := h2
    have hc := Any.strconv_Atoi_syntax Tryz.laysC172 s (by omega) ha ev w h21 h22
    clear ha hz
    go_enter Tryz.func120, Tryz.ntmps120
    go_wp2_with (go_at_call 137; refine hc.mono ?_; rintro e w1 ⟨N, rfl, _, _, hw1⟩)
    go_ret
    exact ⟨rfl, hw1⟩
  · rw [hz (by rw [ha]; simp)]
    obtain ⟨ev, h31, h32⟩ := h3
    have hc := Tryz.strconv_Atoi_range s (by omega) ha ev w h31 h32
    clear ha hz
    go_enter Tryz.func120, Tryz.ntmps120
    go_wp2_with (go_at_call 137; refine hc.mono ?_; rintro e w1 ⟨N, rfl, _, _, hw1⟩)
    go_ret
    exact ⟨rfl, hw1⟩
end Go.Proofs.YtobpidmlgldnmaaGreatDoor

/-
  The program's reader: what a word says.
-/
namespace Go.Proofs.YtobpidmlgldnmaaGreatDoor
open Go.RowKit
set_option maxRecDepth 100000

/-- What the reader leans on, a reader's block at P above all variables. -/
structure Env (m : Int) (P : Nat) (w : World) : Prop where
  rdy : Rdy m w
  syn : IfAt w 1
  rng : IfAt w 2
  lp : 5 < P
  lm : 0 < P
  ls : 1 < P
  lr : 2 < P
theorem KeepBut.upTo {P : Nat} {w w' : World} (h : KeepBut P w w') (hP : P ≤ w.heap.size) : Below P w w' :=
  ⟨h.os, h.tape, h.output, h.size, fun k hk => h.block k (by omega) (by omega)⟩
theorem var_upTo {p : Program} {W W' : World} {B g : Nat} {n : String} {cs : Array Value} (hg : p.globalNamed n = some g) (h : W.var? p n = some cs) (hb : Below B W W') (hB : g < B) : W'.var? p n = some cs := by
  unfold World.var? at h ⊢
  rw [hg] at h ⊢
  simp only [Option.bind_some] at h ⊢
  rw [hb.block g hB]
  exact h
theorem Env.upTo {m : Int} {P : Nat} {w w' : World} (h : Env m P w) (hb : Below P w w') : Env m P w' := by
  obtain ⟨⟨ht, hm⟩, ⟨ev, s1, s2⟩, ⟨er, r1, r2⟩, l1, l2, l3, l4⟩ := h
  refine ⟨⟨var_upTo gPow ht hb l1, ?_⟩, ⟨ev, ?_, s2⟩, ⟨er, ?_, r2⟩, l1, l2, l3, l4⟩
  · exact (hb.cell (p := ⟨_, 0, none⟩) l2).trans hm
  · exact (hb.cell (p := ⟨_, 0, none⟩) l3).trans s1
  · exact (hb.cell (p := ⟨_, 0, none⟩) l4).trans r1
theorem Env.moved {m : Int} {P : Nat} {w w' : World} {s : ByteArray} {k : Nat} (h : Env m P w) (hm : Moved P w w' s k) (hP : P < w.heap.size) : Env m P w' := h.upTo (hm.keep.upTo (by omega))
theorem Env.below {m : Int} {P : Nat} {w w' : World} (h : Env m P w) (hb : Below w.heap.size w w') (hP : P < w.heap.size) : Env m P w' := h.upTo (Joins.below_le hb (by omega))

def wNull : ByteArray := ⟨#[110, 117, 108, 108]⟩
def wTrue : ByteArray := ⟨#[116, 114, 117, 101]⟩
def wFalse : ByteArray := ⟨#[102, 97, 108, 115, 101]⟩
def eB : ByteArray := ⟨#[]⟩
/-- What a word says: kind and number; an error; where it ends. -/
def otherK (s : ByteArray) (k : Nat) : Int × Int × Int × Nat :=
  let W := wordP s k
  let j := k + W.size
  if W = wNull then (0, 0, 0, j) else if W = wTrue then (1, 1, 0, j) else if W = wFalse then (1, 0, 0, j)
  else if objL W.data.toList ≠ 0 ∧ (refP s j).isSome = true then (7, (objL W.data.toList : Nat), 0, (refP s j).getD j)
  else (2, parseN W.data.toList, parseE W.data.toList, j)
theorem word_ne {a b : ByteArray} (h : a ≠ b) : (a.toList == b.toList) = false := by rw [word_beq]; exact decide_eq_false h
theorem box5 {w : World} {b : Nat} {t : TypeId} {k n : Int} {s : ByteArray} (h : At w b t (vc k n s)) :
    (w.cell? ⟨b, 0, none⟩ = some (.int .i64 k) ∧ w.cell? ⟨b, 1, none⟩ = some (.int .i64 n) ∧ w.cell? ⟨b, 2, none⟩ = some (.string s) ∧ w.cell? ⟨b, 3, none⟩ = some (.slice none 0 0) ∧ w.cell? ⟨b, 4, none⟩ = some (.slice none 0 0)) ∧
    (w.frozen? ⟨b, 0, none⟩ = false ∧ w.frozen? ⟨b, 1, none⟩ = false ∧ w.frozen? ⟨b, 2, none⟩ = false ∧ w.frozen? ⟨b, 3, none⟩ = false ∧ w.frozen? ⟨b, 4, none⟩ = false) :=
  ⟨⟨At.cell h 0, At.cell h 1, At.cell h 2, At.cell h 3, At.cell h 4⟩, At.free h 0, At.free h 1, At.free h 2, At.free h 3, At.free h 4⟩
theorem At.vc5 {w : World} {b : Nat} {t : TypeId} {k n : Int} {s : ByteArray} (h : At w b t (vc k n s)) (k' n' : Int) (s' : ByteArray) :
    At (((((w.setCell ⟨b, 0, none⟩ (.int .i64 k')).setCell ⟨b, 1, none⟩ (.int .i64 n')).setCell ⟨b, 2, none⟩ (.string s')).setCell ⟨b, 3, none⟩ (.slice none 0 0)).setCell ⟨b, 4, none⟩ (.slice none 0 0)) b t (vc k' n' s') := by
  have h0 := heap_setCell_same w b 0 _ _ (.int .i64 k') h
  have h1 := heap_setCell_same _ b 1 _ _ (.int .i64 n') h0
  have h2 := heap_setCell_same _ b 2 _ _ (.string s') h1
  have h3 := heap_setCell_same _ b 3 _ _ (.slice none 0 0) h2
  exact heap_setCell_same _ b 4 _ _ (.slice none 0 0) h3
theorem Moved.set5 {P : Nat} {a b : World} {s : ByteArray} {k : Nat} (h : Moved P a b s k) {g : Nat} (hg : a.heap.size ≤ g) (hP : P < a.heap.size) (v0 v1 v2 v3 v4 : Value) :
    Moved P a (((((b.setCell ⟨g, 0, none⟩ v0).setCell ⟨g, 1, none⟩ v1).setCell ⟨g, 2, none⟩ v2).setCell ⟨g, 3, none⟩ v3).setCell ⟨g, 4, none⟩ v4) s k :=
  ((((h.setNew hg hP _ _).setNew hg hP _ _).setNew hg hP _ _).setNew hg hP _ _).setNew hg hP _ _
/-- A reader that has come to j, and a new value's block that is still empty. -/
structure Boxed (P : Nat) (w wr : World) (s : ByteArray) (j : Nat) : Prop where
  mov : Moved P w wr s j
  lt : P < w.heap.size
  box : At wr w.heap.size 38 (vc 0 0 ⟨#[]⟩)
theorem Boxed.new {P : Nat} {w : World} {s : ByteArray} {k : Nat} (hR : RdAt w P s k) : Boxed P w (w.alloc (.cells (vc 0 0 ⟨#[]⟩) 38)) s k :=
  ⟨(Moved.refl hR).below (At.lt hR) (below_box _ _), At.lt hR, At.new _ _ _ rfl⟩
theorem Boxed.moved {P : Nat} {w a b : World} {s : ByteArray} {j i : Nat} (h : Boxed P w a s j) (m : Moved P a b s i) : Boxed P w b s i :=
  ⟨h.mov.trans m, h.lt, m.keep.at h.box (by have := h.lt; omega)⟩
theorem Boxed.below {P : Nat} {w a b : World} {s : ByteArray} {j : Nat} (h : Boxed P w a s j) (hb : Below a.heap.size a b) : Boxed P w b s j :=
  h.moved ⟨.of hb, At.later h.mov.at_ hb⟩
theorem Boxed.env {m : Int} {P : Nat} {w a : World} {s : ByteArray} {j : Nat} (h : Boxed P w a s j) (hE : Env m P w) : Env m P a := hE.moved h.mov h.lt
theorem Boxed.fill {P : Nat} {w a : World} {s : ByteArray} {j : Nat} (h : Boxed P w a s j) (k n : Int) (t : ByteArray) :
    let wf := ((((a.setCell ⟨w.heap.size, 0, none⟩ (.int .i64 k)).setCell ⟨w.heap.size, 1, none⟩ (.int .i64 n)).setCell ⟨w.heap.size, 2, none⟩ (.string t)).setCell ⟨w.heap.size, 3, none⟩ (.slice none 0 0)).setCell ⟨w.heap.size, 4, none⟩ (.slice none 0 0)
    Moved P w wf s j ∧ At wf w.heap.size 38 (vc k n t) :=
  ⟨h.mov.set5 (Nat.le_refl _) h.lt _ _ _ _ _, h.box.vc5 k n t⟩
theorem isNull (W : ByteArray) : (W.toList == [110, 117, 108, 108]) = decide (W = wNull) := by rw [← word_beq, show wNull.toList = [110, 117, 108, 108] by rw [ByteArray.toList_eq]; rfl]
theorem isTrue (W : ByteArray) : (W.toList == [116, 114, 117, 101]) = decide (W = wTrue) := by rw [← word_beq, show wTrue.toList = [116, 114, 117, 101] by rw [ByteArray.toList_eq]; rfl]
theorem isFalse (W : ByteArray) : (W.toList == [102, 97, 108, 115, 101]) = decide (W = wFalse) := by rw [← word_beq, show wFalse.toList = [102, 97, 108, 115, 101] by rw [ByteArray.toList_eq]; rfl]
theorem yWordLe {s : ByteArray} {k : Nat} (hk : k ≤ s.size) : k + (wordP s k).size ≤ s.size := by have := (wordP_size hk).2; omega
set_option maxHeartbeats 4000000 in
theorem yOther (m : Int) (P : Nat) (s : ByteArray) (k : Nat) (w : World) (hE : Env m P w) (hR : RdAt w P s k) (hk : k ≤ s.size) (hs : s.size ≤ 100000) :
    Calls Tryz.prog 98 #[.pointer (some ⟨P, 0, none⟩)] w fun e w' =>
      e = .returned (.tuple #[.agg (vc (otherK s k).1 (otherK s k).2.1 eB), errN (otherK s k).2.2.1]) ∧ Moved P w w' s (otherK s k).2.2.2 := by
  have hPl : P < w.heap.size := At.lt hR
  have hle := yWordLe hk
  obtain ⟨W, hW⟩ : ∃ W, wordP s k = W := ⟨_, rfl⟩
  have HW := hid hW
  rw [hW] at hle
  obtain ⟨K, hK⟩ : ∃ K, otherK s k = K := ⟨_, rfl⟩
  rw [hK]
  unfold otherK at hK
  rw [hW] at hK
  have HK := hid hK
  clear hK
  have hyw := fun (w : World) (h : RdAt w P s k) => yWordN P s W k w h hk hs hW
  clear hW
  have hX0 := Boxed.new hR
  by_cases h1 : W = wNull
  · have HK' := hid (show (0, 0, 0, k + W.size) = K by rw [← HK.out, if_pos h1])
    rw [← HK'.out]
    have ep := (isNull W).trans (decide_eq_true h1)
    clear HK h1
    go_enter Tryz.func98, Tryz.ntmps98
    go_wp2_with (go_at_call 110; go_must (refine (hyw _ hX0.mov.at_).mono ?_); rintro e w1 ⟨rfl, hm1⟩; (have hX1 := hX0.moved hm1); obtain ⟨⟨bx0, bx1, bx2, bx3, bx4⟩, bxf0, bxf1, bxf2, bxf3, bxf4⟩ := box5 hX1.box)
    obtain ⟨hM5, hB5⟩ := hX1.fill 0 0 ⟨#[]⟩
    generalize World.setCell _ _ _ = wf at hB5 hM5 ⊢
    obtain ⟨⟨cx0, cx1, cx2, cx3, cx4⟩, _⟩ := box5 hB5
    refine bodyPost_ret (v := .tuple #[.agg (vc 0 0 ⟨#[]⟩), errN 0]) (by simp [results, Tryz.results98, go_sem, cx0, cx1, cx2, cx3, cx4]; first | exact ⟨rfl, rfl⟩ | rfl) rfl ⟨rfl, hM5⟩
  have en1 := (isNull W).trans (decide_eq_false h1)
  by_cases h2 : W = wTrue
  · have HK' := hid (show (1, 1, 0, k + W.size) = K by rw [← HK.out, if_neg h1, if_pos h2])
    rw [← HK'.out]
    have ep := (isTrue W).trans (decide_eq_true h2)
    clear HK h2
    go_enter Tryz.func98, Tryz.ntmps98
    go_wp2_with (go_at_call 110; go_must (refine (hyw _ hX0.mov.at_).mono ?_); rintro e w1 ⟨rfl, hm1⟩; (have hX1 := hX0.moved hm1); obtain ⟨⟨bx0, bx1, bx2, bx3, bx4⟩, bxf0, bxf1, bxf2, bxf3, bxf4⟩ := box5 hX1.box)
    obtain ⟨hM5, hB5⟩ := hX1.fill 1 1 ⟨#[]⟩
    generalize World.setCell _ _ _ = wf at hB5 hM5 ⊢
    obtain ⟨⟨cx0, cx1, cx2, cx3, cx4⟩, _⟩ := box5 hB5
    refine bodyPost_ret (v := .tuple #[.agg (vc 1 1 ⟨#[]⟩), errN 0]) (by simp [results, Tryz.results98, go_sem, cx0, cx1, cx2, cx3, cx4]; first | exact ⟨rfl, rfl⟩ | rfl) rfl ⟨rfl, hM5⟩
  have en2 := (isTrue W).trans (decide_eq_false h2)
  by_cases h3 : W = wFalse
  · have HK' := hid (show (1, 0, 0, k + W.size) = K by rw [← HK.out, if_neg h1, if_neg h2, if_pos h3])
    rw [← HK'.out]
    have ep := (isFalse W).trans (decide_eq_true h3)
    clear HK h3
    go_enter Tryz.func98, Tryz.ntmps98
    go_wp2_with (go_at_call 110; go_must (refine (hyw _ hX0.mov.at_).mono ?_); rintro e w1 ⟨rfl, hm1⟩; (have hX1 := hX0.moved hm1); obtain ⟨⟨bx0, bx1, bx2, bx3, bx4⟩, bxf0, bxf1, bxf2, bxf3, bxf4⟩ := box5 hX1.box)
    obtain ⟨hM5, hB5⟩ := hX1.fill 1 0 ⟨#[]⟩
    generalize World.setCell _ _ _ = wf at hB5 hM5 ⊢
    obtain ⟨⟨cx0, cx1, cx2, cx3, cx4⟩, _⟩ := box5 hB5
    refine bodyPost_ret (v := .tuple #[.agg (vc 1 0 ⟨#[]⟩), errN 0]) (by simp [results, Tryz.results98, go_sem, cx0, cx1, cx2, cx3, cx4]; first | exact ⟨rfl, rfl⟩ | rfl) rfl ⟨rfl, hM5⟩
  have en3 := (isFalse W).trans (decide_eq_false h3)
  have HK1 := hid (show (if objL W.data.toList ≠ 0 ∧ (refP s (k + W.size)).isSome = true then ((7 : Int), ((objL W.data.toList : Nat) : Int), (0 : Int), (refP s (k + W.size)).getD (k + W.size)) else (2, parseN W.data.toList, parseE W.data.toList, k + W.size)) = K by rw [← HK.out, if_neg h1, if_neg h2, if_neg h3])
  have hobj := fun (w1 : World) (h : Env m P w1) => yObject W w1 (by omega) h.syn h.rng
  clear HK h1 h2 h3
  generalize objL W.data.toList = n at HK1 hobj
  have hpar := fun (w : World) (h : Rdy m w) => parse_rdy m W w h (by omega)
  generalize parseN W.data.toList = pn at HK1 hpar
  generalize parseE W.data.toList = pe at HK1 hpar
  have href := fun (w : World) (h : RdAt w P s (k + W.size)) => yRefers P s (k + W.size) w h (by omega) hs
  by_cases hn : n = 0
  · subst hn
    have HK' := hid (show (2, pn, pe, k + W.size) = K by rw [← HK1.out, if_neg (by simp)])
    rw [← HK'.out]
    clear HK1
    go_enter Tryz.func98, Tryz.ntmps98
    go_wp2_with (first | (go_at_call 110; go_must (refine (hyw _ hX0.mov.at_).mono ?_); rintro e w1 ⟨rfl, hm1⟩; (have hX1 := hX0.moved hm1); obtain ⟨⟨bx0, bx1, bx2, bx3, bx4⟩, bxf0, bxf1, bxf2, bxf3, bxf4⟩ := box5 hX1.box) | (go_at_call 120; go_must (refine (hobj _ (hX1.env hE)).mono ?_); rintro e w2 ⟨rfl, hb2⟩; (have hX2 := hX1.below hb2); obtain ⟨⟨by0, by1, by2, by3, by4⟩, byf0, byf1, byf2, byf3, byf4⟩ := box5 hX2.box) | (go_at_call 122; go_must (refine (hpar _ (hX2.env hE).rdy).mono ?_); rintro e w4 ⟨rfl, hb4, hr4⟩; (have hX4 := hX2.below hb4); obtain ⟨⟨bu0, bu1, bu2, bu3, bu4⟩, buf0, buf1, buf2, buf3, buf4⟩ := box5 hX4.box))
    obtain ⟨hM5, hB5⟩ := hX4.fill 2 pn ⟨#[]⟩
    generalize World.setCell _ _ _ = wf at hB5 hM5 ⊢
    obtain ⟨⟨cx0, cx1, cx2, cx3, cx4⟩, _⟩ := box5 hB5
    refine bodyPost_ret (v := .tuple #[.agg (vc 2 pn ⟨#[]⟩), errN pe]) (by simp [results, Tryz.results98, go_sem, cx0, cx1, cx2, cx3, cx4]; first | exact ⟨rfl, rfl⟩ | rfl) rfl ⟨rfl, hM5⟩
  have hn0 : (0 : Int) < (n : Int) := by omega
  cases hr : (refP s (k + W.size)).isSome
  · have HK' := hid (show (2, pn, pe, k + W.size) = K by rw [← HK1.out, if_neg (by rw [hr]; simp)])
    rw [← HK'.out]
    have hj : (refP s (k + W.size)).getD (k + W.size) = k + W.size := by
      cases h : refP s (k + W.size) with
      | none => rfl
      | some x => rw [h] at hr; simp at hr
    rw [hr, hj] at href
    clear HK1 hr hj
    go_enter Tryz.func98, Tryz.ntmps98
    go_wp2_with (first | (go_at_call 110; go_must (refine (hyw _ hX0.mov.at_).mono ?_); rintro e w1 ⟨rfl, hm1⟩; (have hX1 := hX0.moved hm1); obtain ⟨⟨bx0, bx1, bx2, bx3, bx4⟩, bxf0, bxf1, bxf2, bxf3, bxf4⟩ := box5 hX1.box) | (go_at_call 120; go_must (refine (hobj _ (hX1.env hE)).mono ?_); rintro e w2 ⟨rfl, hb2⟩; (have hX2 := hX1.below hb2); obtain ⟨⟨by0, by1, by2, by3, by4⟩, byf0, byf1, byf2, byf3, byf4⟩ := box5 hX2.box) | (go_at_call 121; go_must (refine (href _ hX2.mov.at_).mono ?_); rintro e w3 ⟨rfl, hm3⟩; (have hX3 := hX2.moved hm3); obtain ⟨⟨bz0, bz1, bz2, bz3, bz4⟩, bzf0, bzf1, bzf2, bzf3, bzf4⟩ := box5 hX3.box) | (go_at_call 122; go_must (refine (hpar _ (hX3.env hE).rdy).mono ?_); rintro e w4 ⟨rfl, hb4, hr4⟩; (have hX4 := hX3.below hb4); obtain ⟨⟨bu0, bu1, bu2, bu3, bu4⟩, buf0, buf1, buf2, buf3, buf4⟩ := box5 hX4.box))
    obtain ⟨hM5, hB5⟩ := hX4.fill 2 pn ⟨#[]⟩
    generalize World.setCell _ _ _ = wf at hB5 hM5 ⊢
    obtain ⟨⟨cx0, cx1, cx2, cx3, cx4⟩, _⟩ := box5 hB5
    refine bodyPost_ret (v := .tuple #[.agg (vc 2 pn ⟨#[]⟩), errN pe]) (by simp [results, Tryz.results98, go_sem, cx0, cx1, cx2, cx3, cx4]; first | exact ⟨rfl, rfl⟩ | rfl) rfl ⟨rfl, hM5⟩
  · have HK' := hid (show (7, (n : Int), 0, (refP s (k + W.size)).getD (k + W.size)) = K by rw [← HK1.out, if_pos ⟨hn, hr⟩])
    rw [← HK'.out]
    rw [hr] at href
    generalize (refP s (k + W.size)).getD (k + W.size) = j at href ⊢
    clear HK1 hr HK'
    go_enter Tryz.func98, Tryz.ntmps98
    go_wp2_with (first | (go_at_call 110; go_must (refine (hyw _ hX0.mov.at_).mono ?_); rintro e w1 ⟨rfl, hm1⟩; (have hX1 := hX0.moved hm1); obtain ⟨⟨bx0, bx1, bx2, bx3, bx4⟩, bxf0, bxf1, bxf2, bxf3, bxf4⟩ := box5 hX1.box) | (go_at_call 120; go_must (refine (hobj _ (hX1.env hE)).mono ?_); rintro e w2 ⟨rfl, hb2⟩; (have hX2 := hX1.below hb2); obtain ⟨⟨by0, by1, by2, by3, by4⟩, byf0, byf1, byf2, byf3, byf4⟩ := box5 hX2.box) | (go_at_call 121; go_must (refine (href _ hX2.mov.at_).mono ?_); rintro e w3 ⟨rfl, hm3⟩; (have hX3 := hX2.moved hm3); obtain ⟨⟨bz0, bz1, bz2, bz3, bz4⟩, bzf0, bzf1, bzf2, bzf3, bzf4⟩ := box5 hX3.box))
    obtain ⟨hM5, hB5⟩ := hX3.fill 7 n ⟨#[]⟩
    generalize World.setCell _ _ _ = wf at hB5 hM5 ⊢
    obtain ⟨⟨cx0, cx1, cx2, cx3, cx4⟩, _⟩ := box5 hB5
    refine bodyPost_ret (v := .tuple #[.agg (vc 7 n ⟨#[]⟩), errN 0]) (by simp [results, Tryz.results98, go_sem, cx0, cx1, cx2, cx3, cx4]; first | exact ⟨rfl, rfl⟩ | rfl) rfl ⟨rfl, hM5⟩
end Go.Proofs.YtobpidmlgldnmaaGreatDoor

/-
  What may be: values: the document's own answer (look only).
-/
namespace Go.Proofs.YtobpidmlgldnmaaGreatDoor
open Go.RowKit
set_option maxRecDepth 100000

/-- One name rises above another one. -/
def risesB (p q : ByteArray) : Bool := !(Op.bytesLess q.toList p.toList || q.toList == p.toList)
/-- Names that may be, and rise. -/
def Names (f : List (ByteArray × V)) : Prop := ∀ (i : Nat) (q : ByteArray × V), f[i]? = some q → nmOk q.1 = true ∧ ∀ (j : Nat) (p : ByteArray × V), i = j + 1 → f[j]? = some p → risesB p.1 q.1 = true
def Own (v : V) : Prop :=
  (v.k = 0 ∧ v.n = 0 ∧ v.s.size = 0 ∧ v.l.length = 0 ∧ v.f.length = 0) ∨
  (v.k = 1 ∧ (v.n = 0 ∨ v.n = 1) ∧ v.s.size = 0 ∧ v.l.length = 0 ∧ v.f.length = 0) ∨
  (v.k = 2 ∧ okF v.n = true ∧ v.s.size = 0 ∧ v.l.length = 0 ∧ v.f.length = 0) ∨
  (v.k = 3 ∧ v.n = 0 ∧ v.s.size ≤ 200 ∧ v.l.length = 0 ∧ v.f.length = 0) ∨
  (v.k = 4 ∧ v.n = 0 ∧ nmOk v.s = true ∧ v.l.length = 0 ∧ v.f.length = 0) ∨
  (v.k = 5 ∧ v.n = 0 ∧ v.s.size = 0 ∧ v.f.length = 0) ∨
  (v.k = 6 ∧ v.n = 0 ∧ v.s.size = 0 ∧ v.l.length = 0 ∧ Names v.f) ∨
  (v.k = 7 ∧ 1 ≤ v.n ∧ v.n ≤ 60 ∧ v.s.size = 0 ∧ v.l.length = 0 ∧ v.f.length = 0)
mutual
/-- It, and all that is in it, may be. -/
def V.Shp : V → Prop
  | ⟨k, n, s, l, f⟩ => Own ⟨k, n, s, l, f⟩ ∧ ShpL l ∧ ShpF f
def ShpL : List V → Prop
  | [] => True
  | x :: l => V.Shp x ∧ ShpL l
def ShpF : List (ByteArray × V) → Prop
  | [] => True
  | q :: l => ShpP q ∧ ShpF l
def ShpP : ByteArray × V → Prop
  | (_, x) => V.Shp x
end
theorem shp_eq (v : V) : v.Shp ↔ Own v ∧ ShpL v.l ∧ ShpF v.f := by cases v; rw [V.Shp]
theorem shpL_iff : ∀ (l : List V), ShpL l ↔ ∀ (i : Nat) (x : V), l[i]? = some x → x.Shp
  | [] => by simp [ShpL]
  | y :: l => by
    rw [ShpL, shpL_iff l]
    refine ⟨fun h i x hx => ?_, fun h => ⟨h 0 y rfl, fun i x hx => h (i + 1) x (by simpa using hx)⟩⟩
    cases i with
    | zero => simp at hx; subst hx; exact h.1
    | succ i => exact h.2 i x (by simpa using hx)
theorem shpF_iff : ∀ (l : List (ByteArray × V)), ShpF l ↔ ∀ (i : Nat) (q : ByteArray × V), l[i]? = some q → q.2.Shp
  | [] => by simp [ShpF]
  | y :: l => by
    rw [ShpF, shpF_iff l]
    have e : ShpP y ↔ y.2.Shp := by cases y; rw [ShpP]
    rw [e]
    refine ⟨fun h i x hx => ?_, fun h => ⟨h 0 y rfl, fun i x hx => h (i + 1) x (by simpa using hx)⟩⟩
    cases i with
    | zero => simp at hx; subst hx; exact h.1
    | succ i => exact h.2 i x (by simpa using hx)
theorem own0 {v : V} (h : v.k = 0) : Own v ↔ v.n = 0 ∧ v.s.size = 0 ∧ v.l.length = 0 ∧ v.f.length = 0 := by simp [Own, h]
theorem own1 {v : V} (h : v.k = 1) : Own v ↔ (v.n = 0 ∨ v.n = 1) ∧ v.s.size = 0 ∧ v.l.length = 0 ∧ v.f.length = 0 := by simp [Own, h]
theorem own2 {v : V} (h : v.k = 2) : Own v ↔ okF v.n = true ∧ v.s.size = 0 ∧ v.l.length = 0 ∧ v.f.length = 0 := by simp [Own, h]
theorem own3 {v : V} (h : v.k = 3) : Own v ↔ v.n = 0 ∧ v.s.size ≤ 200 ∧ v.l.length = 0 ∧ v.f.length = 0 := by simp [Own, h]
theorem own4 {v : V} (h : v.k = 4) : Own v ↔ v.n = 0 ∧ nmOk v.s = true ∧ v.l.length = 0 ∧ v.f.length = 0 := by simp [Own, h]
theorem own5 {v : V} (h : v.k = 5) : Own v ↔ v.n = 0 ∧ v.s.size = 0 ∧ v.f.length = 0 := by simp [Own, h]
theorem own6 {v : V} (h : v.k = 6) : Own v ↔ v.n = 0 ∧ v.s.size = 0 ∧ v.l.length = 0 ∧ Names v.f := by simp [Own, h]
theorem own7 {v : V} (h : v.k = 7) : Own v ↔ 1 ≤ v.n ∧ v.n ≤ 60 ∧ v.s.size = 0 ∧ v.l.length = 0 ∧ v.f.length = 0 := by simp [Own, h]
theorem own8 {v : V} (h : v.k < 0 ∨ 7 < v.k) : ¬ Own v := by
  intro o
  rcases o with o | o | o | o | o | o | o | o <;> omega
theorem toList_nil (s : ByteArray) : s.toList = [] ↔ s.size = 0 := by
  rw [ByteArray.toList_eq, ← List.length_eq_zero_iff]
  simp

end Go.Proofs.YtobpidmlgldnmaaGreatDoor
