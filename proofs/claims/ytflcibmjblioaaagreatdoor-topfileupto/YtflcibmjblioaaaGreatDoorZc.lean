/-
  Joined: Pu, Zi, Zc.
-/
import Derived.Test.YtflcibmjblioaaaGreatDoorPo
import Derived.Test.YtflcibmjblioaaaGreatDoorZg
import Derived.Test.YtflcibmjblioaaaGreatDoorPq
import Derived.Test.YtflcibmjblioaaaGreatDoorFe
import Derived.Test.YtflcibmjblioaaaGreatDoorVi
import Derived.Test.YtflcibmjblioaaaGreatDoorVs
import Derived.Test.YtflcibmjblioaaaGreatDoorRc

/-
  A dictionary's text, read again. Plain.
-/
namespace Go.Proofs.YtflcibmjblioaaaGreatDoor
open Go.RowKit
set_option maxRecDepth 100000

theorem lt_not {a b : ByteArray} (h : Lt b a) : ¬ Lt a b ∧ a ≠ b := by
  have q := leB_not h
  have q' : ¬ (Lt a b ∨ a = b) := fun c => by rw [leB_iff.2 c] at q; exact absurd q (by decide)
  exact ⟨fun c => q' (.inl c), fun c => q' (.inr c)⟩
theorem rset_last {acc : List (ByteArray × V)} {name : ByteArray} {x : V} (hp : acc.Pairwise fun p q => Lt p.1 q.1) (h : ∀ q ∈ acc, Lt q.1 name) : rsetF name x acc false = acc ++ [(name, x)] := by
  have e := rset_new (name := name) (x := x) acc acc.length hp (fun q hq c => (lt_not (h q hq)).2 c.symm) (Nat.le_refl _) (fun i q _ hq => (lt_not (h q (List.mem_of_getElem? hq))).1) (fun q hq => by simp at hq)
  rw [e]; simp
theorem get_last {acc : List (ByteArray × V)} {name : ByteArray} (h : ∀ q ∈ acc, Lt q.1 name) : getF name acc = none :=
  getF_none fun q hq => word_ne (fun c => (lt_not (h q hq)).2 c.symm)
theorem ends2_yes {s : ByteArray} {j p : Nat} {t : List UInt8} (hs : skipP s j = p) (h : s.data.toList.drop p = 62 :: 62 :: t) : endsR s wEnd2 j = (0, true, p + 2) := by
  have q := not_end h
  unfold endsR
  rw [hs, if_neg (by omega), h, if_pos (by rfl)]
  rfl
theorem ends2_no {s : ByteArray} {j p : Nat} {c : UInt8} {t : List UInt8} (hs : skipP s j = p) (h : s.data.toList.drop p = c :: t) (hc : c ≠ 62) : endsR s wEnd2 j = (0, false, p) := by
  have q := not_end h
  have e : Lib.hasPrefix (c :: t) wEnd2.data.toList = false := by
    show List.isPrefixOf [62, 62] (c :: t) = false
    simp [List.isPrefixOf, Ne.symm hc]
  unfold endsR
  rw [hs, if_neg (by omega), h, e, if_neg (by simp)]
theorem seps_F (l : List (ByteArray × V)) (r : List UInt8) : ∃ c t, sepsF l ++ 32 :: 62 :: 62 :: r = 32 :: c :: t ∧ c ≠ 37 ∧ isBl c = false ∧ c ≠ 48 := by
  cases l with
  | nil => exact ⟨62, 62 :: r, rfl, by decide, by decide, by decide⟩
  | cons q l => exact ⟨47, q.1.data.toList.flatMap escN ++ 32 :: (q.2.txt ++ (sepsF l ++ 32 :: 62 :: 62 :: r)), by rw [sepsF, fieldT_eq, nameT]; simp, by decide, by decide, by decide⟩
theorem fd_back {f : Nat → Rd} {s : ByteArray} {k : Nat} {n : ByteArray} {x : V} {r : List UInt8} (hn : nmOk n = true) (ho : Own x) (hb : Back f s x) (h : s.data.toList.drop k = nameT n.data.toList ++ 32 :: (x.txt ++ r)) (hr : ∃ c t, r = 32 :: c :: t ∧ c ≠ 37 ∧ isBl c = false ∧ c ≠ 48) :
    rdFd f s k = ((n, x), 0, k + (nameT n.data.toList).length + 1 + x.txt.length) := by
  have h47 : s.data.toList[k]? = some 47 := by
    have q := congrArg List.head? h
    rw [List.head?_drop] at q
    rw [q]; rfl
  have d1 : s.data.toList.drop (k + 1) = n.data.toList.flatMap escN ++ 32 :: (x.txt ++ r) := drop_succ_of (n := 1) (a := [47]) h rfl
  have hw : (wordP s (k + 1)).data.toList = n.data.toList.flatMap escN := word_back d1 (names_word _) (.inr ⟨32, _, rfl, by decide⟩)
  have hz : (wordP s (k + 1)).size = (n.data.toList.flatMap escN).length := by rw [← hw]; simp
  have en : (⟨n.data.toList.toArray⟩ : ByteArray) = n := ba_ext rfl
  have hR : nameR (wordP s (k + 1)).data.toList = some n.data.toList := by
    unfold nameR
    rw [hw, nameL_back]
    show (if nmOk ⟨n.data.toList.toArray⟩ = true then some n.data.toList else none) = _
    rw [en, if_pos hn]
  have d2 : s.data.toList.drop (k + 1 + (wordP s (k + 1)).size) = 32 :: (x.txt ++ r) := by rw [hz]; exact drop_succ_of d1 rfl
  have d3 : s.data.toList.drop (k + 1 + (wordP s (k + 1)).size + 1) = x.txt ++ r := drop_succ_of (n := 1) (a := [32]) d2 rfl
  obtain ⟨c, t, ht, hc⟩ := txt_head ho
  obtain ⟨c1, c2, _⟩ := opB_out hc
  have hsk : skipP s (k + 1 + (wordP s (k + 1)).size) = k + 1 + (wordP s (k + 1)).size + 1 := by
    rw [ht] at d2
    exact skip_next d2 c1 c2
  obtain ⟨c', t', e', g1, g2, g3⟩ := hr
  have d4 : s.data.toList.drop (k + 1 + (wordP s (k + 1)).size + 1 + x.txt.length) = 32 :: c' :: t' := by rw [← e']; exact drop_succ_of d3 rfl
  have hf := hb _ _ r hsk d3 (.inr ⟨32, c' :: t', e', by decide⟩) (fun _ => noref_next d4 g1 g2 g3)
  unfold rdFd
  rw [if_pos h47, hR]
  simp only [hf, en]
  rw [hz]
  simp [nameT]; omega
theorem rdD_back {f : Nat → Rd} {s : ByteArray} : ∀ (l acc : List (ByteArray × V)) (j fuel : Nat) (r : List UInt8), (∀ q ∈ l, nmOk q.1 = true ∧ Own q.2 ∧ Back f s q.2) → ((acc ++ l).Pairwise fun p q => Lt p.1 q.1) → s.data.toList.drop j = sepsF l ++ 32 :: 62 :: 62 :: r → acc.length + l.length ≤ 300 → l.length < fuel →
    rdD f s fuel acc j = (acc ++ l, 0, j + (sepsF l).length + 3)
  | _, _, _, 0, _, _, _, _, _, hf => by omega
  | [], acc, j, fuel + 1, r, _, _, h, _, _ => by
    have h' : s.data.toList.drop j = 32 :: 62 :: 62 :: r := h
    have d : s.data.toList.drop (j + 1) = 62 :: 62 :: r := drop_succ_of (n := 1) (a := [32]) h' rfl
    rw [rdD_step (ends2_yes (skip_next h' (by decide) (by decide)) d)]
    simp [sepsF]
  | (n, x) :: l, acc, j, fuel + 1, r, hx, hp, h, ha, hf => by
    obtain ⟨hn, ho, hb⟩ := hx (n, x) (by simp)
    simp only at hn ho hb
    have h' : s.data.toList.drop j = 32 :: (nameT n.data.toList ++ 32 :: (x.txt ++ (sepsF l ++ 32 :: 62 :: 62 :: r))) := by rw [h, sepsF, fieldT_eq]; simp
    have d : s.data.toList.drop (j + 1) = nameT n.data.toList ++ 32 :: (x.txt ++ (sepsF l ++ 32 :: 62 :: 62 :: r)) := drop_succ_of (n := 1) (a := [32]) h' rfl
    have hsk : skipP s j = j + 1 := skip_next h' (by decide) (by decide)
    have hfd := fd_back hn ho hb d (seps_F l r)
    have hlt : ∀ q ∈ acc, Lt q.1 n := fun q hq => (List.pairwise_append.1 hp).2.2 q hq (n, x) (by simp)
    have dn : s.data.toList.drop (j + 1 + (nameT n.data.toList).length + 1 + x.txt.length) = sepsF l ++ 32 :: 62 :: 62 :: r := by
      have a1 : s.data.toList.drop (j + 1 + (nameT n.data.toList).length) = 32 :: (x.txt ++ (sepsF l ++ 32 :: 62 :: 62 :: r)) := drop_succ_of d rfl
      have a2 : s.data.toList.drop (j + 1 + (nameT n.data.toList).length + 1) = x.txt ++ (sepsF l ++ 32 :: 62 :: 62 :: r) := drop_succ_of (n := 1) (a := [32]) a1 rfl
      exact drop_succ_of a2 rfl
    have ih := rdD_back l (acc ++ [(n, x)]) _ fuel r (fun y hy => hx y (by simp [hy])) (by simpa using hp) dn (by simp at ha ⊢; omega) (by simp at hf; omega)
    rw [rdD_step (ends2_no hsk d (by decide)), hfd]
    simp only [ne_eq, not_true_eq_false, if_false, Bool.false_eq_true]
    simp at ha
    rw [get_last hlt, rset_last (List.pairwise_append.1 hp).1 hlt, if_neg (by simp), if_neg (by omega), ih, sepsF, fieldT_eq]
    simp
    omega
theorem dictV_back {f : Nat → Rd} {s : ByteArray} {p : Nat} {l : List (ByteArray × V)} {r : List UInt8} (h : s.data.toList.drop p = 60 :: 60 :: sepsF l ++ [32, 62, 62] ++ r) (hx : ∀ q ∈ l, nmOk q.1 = true ∧ Own q.2 ∧ Back f s q.2) (hp : l.Pairwise fun p q => Lt p.1 q.1) (hl : l.length ≤ 300) :
    dictV f s p = (⟨6, 0, eB, [], l⟩, 0, p + (60 :: 60 :: sepsF l ++ [32, 62, 62]).length) := by
  have hd : s.data.toList.drop (p + 2) = sepsF l ++ 32 :: 62 :: 62 :: r := drop_succ_of (n := 2) (a := [60, 60]) (by rw [h]; simp) rfl
  unfold dictV
  rw [rdD_back l [] (p + 2) 302 r hx (by simpa using hp) hd (by simpa using hl) (by omega)]
  simp
  omega
end Go.Proofs.YtflcibmjblioaaaGreatDoor

/-
  Reading, the document's answer: a value, case by case.
-/
namespace Go.Proofs.YtflcibmjblioaaaGreatDoor
open Go.RowKit
set_option maxRecDepth 100000

/-- The answer's own block, still empty. -/
structure BoxA (w a : World) : Prop where
  below : Below w.heap.size w a
  box : At a w.heap.size 40 (vc 0 0 ⟨#[]⟩)
theorem BoxA.new (w : World) : BoxA w (w.alloc (.cells (vc 0 0 ⟨#[]⟩) 40)) := ⟨below_box _ _, At.new _ _ _ rfl⟩
theorem BoxA.later {w a b : World} (h : BoxA w a) (hb : Below a.heap.size a b) : BoxA w b := ⟨h.below.trans (hb.mono h.below.size), At.later h.box hb⟩
theorem BoxA.fill {w a : World} (h : BoxA w a) (k n : Int) (t : ByteArray) :
    let wf := ((((a.setCell ⟨w.heap.size, 0, none⟩ (.int .i64 k)).setCell ⟨w.heap.size, 1, none⟩ (.int .i64 n)).setCell ⟨w.heap.size, 2, none⟩ (.string t)).setCell ⟨w.heap.size, 3, none⟩ (.slice none 0 0)).setCell ⟨w.heap.size, 4, none⟩ (.slice none 0 0)
    Below w.heap.size w wf ∧ At wf w.heap.size 40 (vc k n t) :=
  ⟨below_set5 h.below (Nat.le_refl _) _ _ _ _ _, h.box.vc5 k n t⟩
theorem BoxA.fill5 {w a : World} (h : BoxA w a) (v0 v1 v2 v3 v4 : Value) {wf : World} (hf : wf = set5 a w.heap.size v0 v1 v2 v3 v4) :
    Below w.heap.size w wf ∧ At wf w.heap.size 40 #[v0, v1, v2, v3, v4] ∧ wf.heap.size = a.heap.size ∧ ∀ k, k ≠ w.heap.size → wf.heap[k]? = a.heap[k]? := by
  subst hf
  exact ⟨below_set5 h.below (Nat.le_refl _) _ _ _ _ _, At.five h.box _ _ _ _ _, set5_size _ _ _ _ _ _ _, fun k hk => set5_other _ _ _ _ _ _ _ hk⟩
end Go.Proofs.YtflcibmjblioaaaGreatDoor

/-
  Reading, the document's answer: strings in brackets.
-/
namespace Go.Proofs.YtflcibmjblioaaaGreatDoor
open Go.RowKit
set_option maxRecDepth 100000

/-- Where the answer stands in a string in brackets. -/
structure Lit (s : ByteArray) (w wr : World) (R : Int × List UInt8 × Nat) (k deep : Nat) (pre : List UInt8) (bv : Value) : Prop where
  le : k ≤ s.size
  d1 : 1 ≤ deep
  dk : deep ≤ k + 1
  pl : pre.length ≤ k
  eq : litT (s.data.toList.drop k) deep pre k = R
  own : Own8 wr w.heap.size bv pre
  below : Below w.heap.size w wr
end Go.Proofs.YtflcibmjblioaaaGreatDoor
