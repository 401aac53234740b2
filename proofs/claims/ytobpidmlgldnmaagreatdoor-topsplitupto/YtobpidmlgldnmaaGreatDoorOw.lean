/-
  Joined: Ji, Jg, Ow.
-/
import Derived.Test.YtobpidmlgldnmaaGreatDoorJf
import Derived.Test.YtobpidmlgldnmaaGreatDoorCb

/-
  Operators that a law makes, in memory.
-/
namespace Go.Proofs.YtobpidmlgldnmaaGreatDoor
open Go.RowKit
set_option maxRecDepth 100000

def v0C (k n : Int) (s : ByteArray) : List Value := [.int .i64 k, .int .i64 n, .string s, .slice none 0 0, .slice none 0 0]
theorem rep_v0 (d : Nat) (w : World) (k n : Int) (s : ByteArray) (hs : s.size ≤ maxLen) : RepN (d + 1) w (V0 k n s) (v0C k n s) :=
  ⟨none, none, 0, 0, rfl, ⟨hs, Nat.zero_le _, Nat.zero_le _⟩, fun i x h => by simp [V0] at h, fun i q h => by simp [V0] at h⟩
/-- Values in a row of cells. -/
def rowC (l : List (V × List Value)) : List Value := l.flatMap (·.2)
theorem rowC_at : ∀ (l : List (V × List Value)), (∀ x ∈ l, x.2.length = 5) → ∀ (i : Nat) x, l[i]? = some x → ∀ j u, x.2[j]? = some u → (rowC l)[i * 5 + j]? = some u
  | [], _, i, x, h, j, u, _ => by simp at h
  | y :: l, hk, 0, x, h, j, u, hu => by
    simp at h; subst h
    have e : rowC (y :: l) = y.2 ++ rowC l := by simp [rowC]
    rw [e, Nat.zero_mul, Nat.zero_add, List.getElem?_append_left (List.getElem?_eq_some_iff.1 hu).1]
    exact hu
  | y :: l, hk, i + 1, x, h, j, u, hu => by
    have q := rowC_at l (fun x hx => hk x (List.mem_cons_of_mem _ hx)) i x (by simpa using h) j u hu
    have e : rowC (y :: l) = y.2 ++ rowC l := by simp [rowC]
    have hl : y.2.length = 5 := hk y (List.mem_cons_self)
    rw [e, List.getElem?_append_right (by rw [hl]; omega), hl, show (i + 1) * 5 + j - 5 = i * 5 + j by omega]
    exact q
/-- A list of values, in a block of its own. -/
theorem rep_row {d : Nat} {w : World} {b : Nat} {T : TypeId} {cs : Array Value} {c : Nat} (l : List (V × List Value)) (h : At w b T cs) (hc : cs = (rowC l).toArray) (h5 : ∀ x ∈ l, x.2.length = 5) (hr : ∀ x ∈ l, RepN d w x.1 x.2) (hn : l.length ≤ maxLen) : RepN (d + 1) w (listV5 (l.map (·.1))) (listC (.slice (some ⟨b, 0, none⟩) l.length c)) := by
  refine ⟨some ⟨b, 0, none⟩, none, c, 0, by unfold listC listV5; simp, ⟨by show eB.size ≤ maxLen; unfold eB maxLen; decide, by unfold listV5; simpa using hn, Nat.zero_le _⟩, fun i x hx => ?_, fun i q h => by simp [listV5] at h⟩
  have hx' : (l.map (·.1))[i]? = some x := hx
  rw [List.getElem?_map] at hx'
  cases hy : l[i]? with
  | none => rw [hy] at hx'; cases hx'
  | some y =>
    rw [hy] at hx'
    injection hx' with hx'
    subst hx'
    refine ⟨b, 0, y.2, rfl, h.lt, fun j u hu => ?_, hr y (List.mem_of_getElem? hy)⟩
    rw [h.cell, hc, Nat.zero_add]
    simpa using rowC_at l h5 i y hy j u hu
theorem rep_nil (d : Nat) (w : World) : RepN (d + 1) w (listV5 []) (listC (.slice none 0 0)) :=
  ⟨none, none, 0, 0, rfl, ⟨by unfold listV5 eB; unfold maxLen; decide, Nat.zero_le _, Nat.zero_le _⟩, fun i x h => by simp [listV5] at h, fun i q h => by simp [listV5] at h⟩
def opsC (l : List (OpP × Value)) : List Value := l.flatMap fun o => [.string o.1.1, o.2]
theorem opsC_at : ∀ (l : List (OpP × Value)) (i : Nat) x, l[i]? = some x → (opsC l)[i * 2]? = some (.string x.1.1) ∧ (opsC l)[i * 2 + 1]? = some x.2
  | [], i, x, h => by simp at h
  | y :: l, 0, x, h => by
    simp at h; subst h
    exact ⟨rfl, rfl⟩
  | y :: l, i + 1, x, h => by
    have q := opsC_at l i x (by simpa using h)
    have e : opsC (y :: l) = .string y.1.1 :: y.2 :: opsC l := rfl
    rw [e, show (i + 1) * 2 = i * 2 + 1 + 1 by omega, show i * 2 + 1 + 1 + 1 = (i * 2 + 1) + 1 + 1 by omega]
    simp only [List.getElem?_cons_succ]
    exact q
/-- Operators in a row that was made. -/
theorem ops_own {d : Nat} {w : World} {B : Nat} {v : Value} (l : List (OpP × Value)) (h : w.ownsRow B 41 2 v l.length (opsC l)) (hr : ∀ x ∈ l, x.1.1.size ≤ maxLen ∧ RepN d w (listV5 x.1.2) (listC x.2)) (hn : l.length ≤ maxLen) : OpsN d w v (l.map (·.1)) := by
  have hc := fun g => World.ownsRow.cells h (g := g)
  obtain ⟨_, ⟨rfl, h2⟩ | ⟨g, cap, cur, rfl, h2, h3, h4, _⟩⟩ := h
  · obtain rfl := List.eq_nil_of_length_eq_zero h2
    exact ⟨none, 0, rfl, Nat.zero_le _, fun i x hx => by simp at hx⟩
  · refine ⟨_, cap, by rw [List.length_map], by rw [List.length_map]; exact hn, fun i x hx => ?_⟩
    rw [List.getElem?_map] at hx
    cases hy : l[i]? with
    | none => rw [hy] at hx; cases hx
    | some y =>
      rw [hy] at hx
      injection hx with hx
      subst hx
      obtain ⟨q0, q1⟩ := opsC_at l i y hy
      have k0 := hc g rfl _ _ q0
      have k1 := hc g rfl _ _ q1
      rw [Lib.add_plain, Nat.zero_add] at k0 k1
      have hh := hr y (List.mem_of_getElem? hy)
      exact ⟨g, 0, y.2, rfl, (Array.getElem?_eq_some_iff.1 h3).1, by rw [Nat.zero_add]; exact k0, by rw [Nat.zero_add]; exact k1, hh.1, hh.2⟩
/-- What stands ahead of a string that is shown. -/
structure HeadAt (w : World) (a1 a2 a3 hb Hp : Nat) (n c z : Int) : Prop where
  h1 : At w a1 38 #[.int .i64 4, .int .i64 0, .string ⟨#[70]⟩, .slice none 0 0, .slice none 0 0, .int .i64 2, .int .i64 n, .string ⟨#[]⟩, .slice none 0 0, .slice none 0 0]
  h2 : At w a2 38 #[.int .i64 2, .int .i64 c, .string ⟨#[]⟩, .slice none 0 0, .slice none 0 0]
  h3 : At w a3 38 #[.int .i64 2, .int .i64 z, .string ⟨#[]⟩, .slice none 0 0, .slice none 0 0]
  h4 : At w hb 41 #[.string ⟨#[66, 84]⟩, .slice none 0 0, .string ⟨#[84, 102]⟩, .slice (some ⟨a1, 0, none⟩) 2 2, .string ⟨#[84, 99]⟩, .slice (some ⟨a2, 0, none⟩) 1 1, .string ⟨#[84, 122]⟩, .slice (some ⟨a3, 0, none⟩) 1 1]
  h5 : At w Hp 22 #[.slice (some ⟨hb, 0, none⟩) 4 4]
theorem HeadAt.later {w w' : World} {a1 a2 a3 hb Hp : Nat} {n c z : Int} (h : HeadAt w a1 a2 a3 hb Hp n c z) (b : Below w.heap.size w w') : HeadAt w' a1 a2 a3 hb Hp n c z := ⟨h.h1.later b, h.h2.later b, h.h3.later b, h.h4.later b, h.h5.later b⟩
def hdL (a1 a2 a3 : Nat) (n c z : Int) : List (OpP × Value) := [((nBT, []), .slice none 0 0), ((nTf, [V0 4 0 qF, V0 2 n eB]), .slice (some ⟨a1, 0, none⟩) 2 2), ((nTc, [V0 2 c eB]), .slice (some ⟨a2, 0, none⟩) 1 1), ((nTz, [V0 2 z eB]), .slice (some ⟨a3, 0, none⟩) 1 1)]
theorem hdL_rep {w : World} {a1 a2 a3 hb Hp : Nat} {n c z : Int} (h : HeadAt w a1 a2 a3 hb Hp n c z) : ∀ x ∈ hdL a1 a2 a3 n c z, x.1.1.size ≤ maxLen ∧ RepN 3 w (listV5 x.1.2) (listC x.2) := by
  have hz : eB.size ≤ maxLen := by unfold eB maxLen; decide
  have hq : qF.size ≤ maxLen := by unfold qF maxLen; decide
  intro x hx
  unfold hdL at hx
  simp only [List.mem_cons, List.not_mem_nil, or_false] at hx
  rcases hx with rfl | rfl | rfl | rfl
  · exact ⟨by unfold nBT maxLen; decide, rep_nil 2 w⟩
  · exact ⟨by show nTf.size ≤ maxLen; unfold nTf maxLen; decide, rep_row (d := 2) [(V0 4 0 qF, v0C 4 0 qF), (V0 2 n eB, v0C 2 n eB)] h.h1 rfl (fun x hx => by simp only [List.mem_cons, List.not_mem_nil, or_false] at hx; rcases hx with rfl | rfl <;> rfl) (fun x hx => by
      simp only [List.mem_cons, List.not_mem_nil, or_false] at hx
      rcases hx with rfl | rfl
      · exact rep_v0 1 w 4 0 qF hq
      · exact rep_v0 1 w 2 n eB hz) (by show 2 ≤ maxLen; unfold maxLen; decide)⟩
  · exact ⟨by show nTc.size ≤ maxLen; unfold nTc maxLen; decide, rep_row (d := 2) [(V0 2 c eB, v0C 2 c eB)] h.h2 rfl (fun x hx => by simp only [List.mem_cons, List.not_mem_nil, or_false] at hx; subst hx; rfl) (fun x hx => by simp only [List.mem_cons, List.not_mem_nil, or_false] at hx; subst hx; exact rep_v0 1 w 2 c eB hz) (by show 1 ≤ maxLen; unfold maxLen; decide)⟩
  · exact ⟨by show nTz.size ≤ maxLen; unfold nTz maxLen; decide, rep_row (d := 2) [(V0 2 z eB, v0C 2 z eB)] h.h3 rfl (fun x hx => by simp only [List.mem_cons, List.not_mem_nil, or_false] at hx; subst hx; rfl) (fun x hx => by simp only [List.mem_cons, List.not_mem_nil, or_false] at hx; subst hx; exact rep_v0 1 w 2 z eB hz) (by show 1 ≤ maxLen; unfold maxLen; decide)⟩
theorem ops_head {w : World} {B : Nat} {v : Value} {a1 a2 a3 hb Hp : Nat} {n c z : Int} (h : HeadAt w a1 a2 a3 hb Hp n c z) (X : List (OpP × Value)) (hv : w.ownsRow B 41 2 v (4 + X.length) (opsC (hdL a1 a2 a3 n c z) ++ opsC X)) (hX : ∀ x ∈ X, x.1.1.size ≤ maxLen ∧ RepN 3 w (listV5 x.1.2) (listC x.2)) (hn : X.length ≤ 10) : OpsN 3 w v (hd4 n c z ++ X.map (·.1)) := by
  have e : opsC (hdL a1 a2 a3 n c z) ++ opsC X = opsC (hdL a1 a2 a3 n c z ++ X) := by unfold opsC; rw [List.flatMap_append]
  have el : 4 + X.length = (hdL a1 a2 a3 n c z ++ X).length := by rw [List.length_append]; rfl
  rw [e, el] at hv
  have := ops_own (d := 3) (hdL a1 a2 a3 n c z ++ X) hv (fun x hx => by
    rcases List.mem_append.1 hx with hx | hx
    · exact hdL_rep h x hx
    · exact hX x hx) (by rw [← el]; unfold maxLen; omega)
  rw [List.map_append] at this
  exact this
theorem okA_hd {n c z : Int} : ∀ o ∈ hd4 n c z, okA o.2 := by
  intro o ho
  unfold hd4 at ho
  simp only [List.mem_cons, List.not_mem_nil, or_false] at ho
  rcases ho with rfl | rfl | rfl | rfl <;> intro v hv <;> simp only [List.mem_cons, List.not_mem_nil, or_false] at hv
  · rcases hv with rfl | rfl
    · exact ⟨by show qF.size ≤ 1000; decide, fun u hu => by simp [V0] at hu⟩
    · exact ⟨by show eB.size ≤ 1000; decide, fun u hu => by simp [V0] at hu⟩
  · subst hv; exact ⟨by show eB.size ≤ 1000; decide, fun u hu => by simp [V0] at hu⟩
  · subst hv; exact ⟨by show eB.size ≤ 1000; decide, fun u hu => by simp [V0] at hu⟩
theorem one_hdL (a1 a2 a3 : Nat) (n c z : Int) : ∀ u ∈ opsC (hdL a1 a2 a3 n c z), u.oneCell' = true := by
  intro u hu
  simp only [opsC, hdL, List.flatMap_cons, List.flatMap_nil, List.cons_append, List.nil_append, List.append_nil, List.mem_cons, List.not_mem_nil, or_false] at hu
  rcases hu with rfl | rfl | rfl | rfl | rfl | rfl | rfl | rfl <;> rfl
theorem tail_head {w : World} {a1 a2 a3 hb Hp : Nat} {n c z : Int} (h : HeadAt w a1 a2 a3 hb Hp n c z) (X : List (OpP × Value)) (lb : Nat) (hX : At w lb 41 (opsC X).toArray) (hk : X.length ≤ 10) (ho : ∀ u ∈ opsC X, u.oneCell' = true) :
    Calls Tryz.prog 17 #[.slice (some ⟨lb, 0, none⟩) X.length X.length, .pointer (some ⟨Hp, 0, none⟩)] w fun e w' => (∃ v, e = .returned v ∧ w'.ownsRow w.heap.size 41 2 v (4 + X.length) (opsC (hdL a1 a2 a3 n c z) ++ opsC X)) ∧ Below w.heap.size w w' := by
  refine tail_says hb lb Hp X.length (opsC (hdL a1 a2 a3 n c z)) (opsC X) w h.h5 rfl ?_ hk (fun j u hj => ?_) (fun j u hj => ?_) h.h4.lt hX.lt (one_hdL _ _ _ _ _ _) ho
  · clear hX ho hk
    induction X with
    | nil => rfl
    | cons x X ih =>
      have e : opsC (x :: X) = .string x.1.1 :: x.2 :: opsC X := rfl
      rw [e, List.length_cons, List.length_cons, List.length_cons, ih]; omega
  · have e := h.h4.cell j
    rw [show (#[.string ⟨#[66, 84]⟩, .slice none 0 0, .string ⟨#[84, 102]⟩, .slice (some ⟨a1, 0, none⟩) 2 2, .string ⟨#[84, 99]⟩, .slice (some ⟨a2, 0, none⟩) 1 1, .string ⟨#[84, 122]⟩, .slice (some ⟨a3, 0, none⟩) 1 1] : Array Value) = (opsC (hdL a1 a2 a3 n c z)).toArray from rfl] at e
    rw [e]; simpa using hj
  · rw [hX.cell]; simpa using hj
theorem rep_one {w : World} {b : Nat} {u : ByteArray} (h : At w b 38 #[.int .i64 3, .int .i64 0, .string u, .slice none 0 0, .slice none 0 0]) (hu : u.size ≤ maxLen) : RepN 3 w (listV5 [V0 3 0 u]) (listC (.slice (some ⟨b, 0, none⟩) 1 1)) :=
  rep_row (d := 2) [(V0 3 0 u, v0C 3 0 u)] h rfl (fun x hx => by simp only [List.mem_cons, List.not_mem_nil, or_false] at hx; subst hx; rfl) (fun x hx => by simp only [List.mem_cons, List.not_mem_nil, or_false] at hx; subst hx; exact rep_v0 1 w 3 0 u hu) (by show 1 ≤ maxLen; unfold maxLen; decide)
theorem rep_two {w : World} {b b' : Nat} {u v : ByteArray} (h : At w b' 38 #[.int .i64 3, .int .i64 0, .string u, .slice none 0 0, .slice none 0 0, .int .i64 3, .int .i64 0, .string v, .slice none 0 0, .slice none 0 0]) (h' : At w b 38 #[.int .i64 5, .int .i64 0, .string ⟨#[]⟩, .slice (some ⟨b', 0, none⟩) 2 2, .slice none 0 0]) (hu : u.size ≤ maxLen) (hv : v.size ≤ maxLen) : RepN 3 w (listV5 [⟨5, 0, eB, [V0 3 0 u, V0 3 0 v], []⟩]) (listC (.slice (some ⟨b, 0, none⟩) 1 1)) := by
  have q : RepN 2 w (listV5 [V0 3 0 u, V0 3 0 v]) (listC (.slice (some ⟨b', 0, none⟩) 2 2)) := rep_row (d := 1) [(V0 3 0 u, v0C 3 0 u), (V0 3 0 v, v0C 3 0 v)] h rfl (fun x hx => by simp only [List.mem_cons, List.not_mem_nil, or_false] at hx; rcases hx with rfl | rfl <;> rfl) (fun x hx => by
      simp only [List.mem_cons, List.not_mem_nil, or_false] at hx
      rcases hx with rfl | rfl
      · exact rep_v0 0 w 3 0 u hu
      · exact rep_v0 0 w 3 0 v hv) (by show 2 ≤ maxLen; unfold maxLen; decide)
  exact rep_row (d := 2) [(listV5 [V0 3 0 u, V0 3 0 v], listC (.slice (some ⟨b', 0, none⟩) 2 2))] h' rfl (fun x hx => by simp only [List.mem_cons, List.not_mem_nil, or_false] at hx; subst hx; rfl) (fun x hx => by simp only [List.mem_cons, List.not_mem_nil, or_false] at hx; subst hx; exact q) (by show 1 ≤ maxLen; unfold maxLen; decide)
theorem okA_app {L X : List OpP} (h : ∀ o ∈ L, okA o.2) (k : ∀ o ∈ X, okA o.2) : ∀ o ∈ L ++ X, okA o.2 := fun o ho => by
  rcases List.mem_append.1 ho with ho | ho
  · exact h o ho
  · exact k o ho
theorem okA_sop {s t : ByteArray} (h : s.size ≤ 200 ∧ t.size ≤ 200 ∧ (s ++ t).size ≤ 200) : (∀ o ∈ sopA s t, okA o.2) ∧ (∀ o ∈ sopB s t, okA o.2) ∧ (∀ o ∈ sopC s t, okA o.2) := by
  refine ⟨fun o ho => ?_, fun o ho => ?_, fun o ho => ?_⟩
  · unfold sopA at ho
    simp only [List.mem_cons, List.not_mem_nil, or_false] at ho
    subst ho
    intro v hv
    simp only [List.mem_cons, List.not_mem_nil, or_false] at hv
    subst hv
    exact ⟨by show (s ++ t).size ≤ 1000; omega, fun u hu => by simp [V0] at hu⟩
  · unfold sopB at ho
    simp only [List.mem_cons, List.not_mem_nil, or_false] at ho
    rcases ho with rfl | rfl <;> intro v hv <;> simp only [List.mem_cons, List.not_mem_nil, or_false] at hv <;> subst hv
    · exact ⟨by show s.size ≤ 1000; omega, fun u hu => by simp [V0] at hu⟩
    · exact ⟨by show t.size ≤ 1000; omega, fun u hu => by simp [V0] at hu⟩
  · unfold sopC at ho
    simp only [List.mem_cons, List.not_mem_nil, or_false] at ho
    subst ho
    intro v hv
    simp only [List.mem_cons, List.not_mem_nil, or_false] at hv
    subst hv
    refine ⟨by show eB.size ≤ 1000; decide, fun u hu => ?_⟩
    simp only [List.mem_cons, List.not_mem_nil, or_false] at hu
    rcases hu with rfl | rfl
    · show s.size ≤ 1000; omega
    · show t.size ≤ 1000; omega
/-- The font of a law, by its name. -/
theorem one_page {m : Nat} {F : Ft} {i j : Option Nat} {al : Option Addr} {cap mb : Nat} {w W : World} (L : List OpP) (v : Value) (hO : OpsN 3 W v L) (hk : ∀ o ∈ L, okA o.2) (hB : Below w.heap.size w W) (hF : FtIn w F (.map i) (.map j) al) (hT : Tb w) (hsp : spFault F.l F.wide = 0) (hM : W.ownsMap Tryz.prog 9 heldR mb m (nmD [⟨⟨#[70]⟩, F, i, j, al, cap⟩])) :
    Calls Tryz.prog 10 #[v, .map (some mb)] W fun e w' => PgA W e w' (pageR (sgF F) (ffOne qF ⟨F.wide, .map i, F.miss, .map j, .slice al F.l.length cap⟩) L) ∧ Below W.heap.size W w' := by
  refine page_says (sgF F) _ 3 L v (some mb) W hO hk (fun K h hf => fonts_one qF _ ⟨_, _, _, _, _, rfl, rfl, rfl⟩ hf (by rw [h]; exact hM)) (fun K h s x hx => ?_)
  unfold ffOne at hx
  split at hx
  · injection hx with hx
    rw [← hx]
    exact sig_of (sgF F) (fun s => rfl) (by rw [h]; exact hF.at_.later hB) (by rw [h]; exact hT.below hB) hsp
  · cases hx
end Go.Proofs.YtobpidmlgldnmaaGreatDoor

/-
  A string is shown as its parts are: the law.
-/
namespace Go.Proofs.YtobpidmlgldnmaaGreatDoor
open Go.RowKit
set_option maxRecDepth 100000

set_option maxHeartbeats 4000000 in
theorem topSplit_any (m : Int) (F : Ft) (i j : Option Nat) (al : Option Addr) (cap : Nat) (size char scale : Int) (s t : ByteArray) (w : World) (hG : Gr m w) (hT : Tb w) (hF : FtIn w F (.map i) (.map j) al) (hW : WdIn w (.map i)) (hs : s.size ≤ 1048576) (ht : t.size ≤ 1048576) :
    Calls Tryz.prog 5 #[ftV F (.map i) (.map j) al cap, .int .i64 size, .int .i64 char, .int .i64 scale, .string s, .string t] w fun e w' => e = .returned (.bool true) ∧ Below w.heap.size w w' := by
  have HF := hid hF
  have HW := hid hW
  have HS := hid (fun W (hB : Below w.heap.size w W) => shows_nil m W (hG.below hB) (hT.below hB))
  have HT := hid hT
  clear hF hW hG hT
  go_enter Tryz.func5, Tryz.ntmps5
  go_wp2_with (go_at_call 7; fail)
  go_at_call 7
  refine (HS.out _ (by go_grown)).mono ?_
  rintro e w1 ⟨rfl, hb1⟩
  have X1 := (At.new w #[.bool F.wide, .map i, .int .i64 F.miss, .map j, .slice al F.l.length cap] 56 rfl).later hb1
  have B1 := hid (chn0 (show Below w.heap.size w _ from (Below.refl _ _).alloc (Nat.le_refl _) (.cells #[.bool F.wide, .map i, .int .i64 F.miss, .map j, .slice al F.l.length cap] 56)) hb1)
  have HX := hid X1
  have x0 := X1.cell 0
  have x1 := X1.cell 1
  have x2 := X1.cell 2
  have x3 := X1.cell 3
  have x4 := X1.cell 4
  have zX := X1.lt
  simp at x0 x1 x2 x3 x4
  clear hb1 X1 HS
  go_wp2_with (go_at_call 6; fail)
  have hn : NmsAt (w1.alloc (.cells #[.string ⟨#[70]⟩, .bool F.wide, .map i, .int .i64 F.miss, .map j, .slice al F.l.length cap] 58)) (.slice (some ⟨w1.heap.size, 0, none⟩) 1 1) [⟨⟨#[70]⟩, F, i, j, al, cap⟩] := by
    have A := At.new w1 #[.string ⟨#[70]⟩, .bool F.wide, .map i, .int .i64 F.miss, .map j, .slice al F.l.length cap] 58 rfl
    have B := chn0 B1.out (show Below w1.heap.size w1 _ from (Below.refl _ _).alloc (Nat.le_refl _) (.cells #[.string ⟨#[70]⟩, .bool F.wide, .map i, .int .i64 F.miss, .map j, .slice al F.l.length cap] 58))
    refine ⟨_, _, rfl, by show 1 ≤ maxLen; unfold maxLen; decide, fun k n hk => ?_⟩
    match k, hk with
    | 0, hk =>
      injection hk with hk
      subst hk
      exact ⟨_, 0, rfl, A.lt, A.cell 0, A.cell 1, A.cell 2, A.cell 3, A.cell 4, A.cell 5, HF.out.later B, HW.out.later B, by show (⟨#[70]⟩ : ByteArray).size ≤ maxLen; unfold maxLen; decide⟩
    | k + 1, hk => simp at hk
  go_at_call 6
  refine (fonts_says _ _ _ hn).mono ?_
  rintro e w2 ⟨mb, lt, rfl, hlt, hmb, hmb2, _, hb2⟩
  have B2 := hid (chn0 (chn0 B1.out (show Below w1.heap.size w1 _ from (Below.refl _ _).alloc (Nat.le_refl _) (.cells #[.string ⟨#[70]⟩, .bool F.wide, .map i, .int .i64 F.miss, .map j, .slice al F.l.length cap] 58))) hb2)
  have X2 := ((HX.out.alloc (.cells #[.string ⟨#[70]⟩, .bool F.wide, .map i, .int .i64 F.miss, .map j, .slice al F.l.length cap] 58)).later hb2)
  have HL := hid hlt
  have HM := hid (And.intro hmb hmb2)
  clear hn hb2 hlt hmb hmb2 x0 x1 x2 x3 x4 zX HX
  have x0 := X2.cell 0
  have zX := X2.lt
  have HX := hid X2
  simp at x0
  clear X2
  cases lt with
  | false =>
    go_wp2_with fail
    go_ret
    exact ⟨rfl, B2.out⟩
  | true =>
    obtain ⟨_, hsp, hmap⟩ := HL.out rfl
    have HSP := hid (hsp _ (List.mem_singleton.2 rfl))
    have HMAP := hid hmap
    clear hsp hmap HL
    go_wp2_with (go_at_call 9; fail)
    go_at_call 9
    have A3 := At.new w2 #[.int .i64 size, .int .i64 char, .int .i64 scale] 3 rfl
    refine (small_says [size, char, scale] _ _ (by simp) ⟨_, _, rfl, fun k z hk => by
      match k, hk with
      | 0, hk => injection hk with hk; subst hk; exact ⟨_, 0, rfl, A3.lt, A3.cell 0⟩
      | 1, hk => injection hk with hk; subst hk; exact ⟨_, 0, rfl, A3.lt, A3.cell 1⟩
      | 2, hk => injection hk with hk; subst hk; exact ⟨_, 0, rfl, A3.lt, A3.cell 2⟩
      | k + 3, hk => simp at hk⟩).mono ?_
    rintro e w3 ⟨he, hb3⟩
    have b23 : Below w2.heap.size w2 w3 := chn0 ((Below.refl _ _).alloc (Nat.le_refl _) (.cells #[.int .i64 size, .int .i64 char, .int .i64 scale] 3)) hb3
    have B3 := hid (chn0 B2.out b23)
    have X3 := HX.out.later b23
    have MAP3 := hid (kept_below HMAP.out b23)
    clear A3 hb3 b23 x0 zX HX HMAP
    have x0 := X3.cell 0
    have zX := X3.lt
    simp at x0
    clear X3
    rcases he with rfl | rfl
    · go_wp2_with fail
      go_ret
      exact ⟨rfl, B3.out⟩
    · by_cases h200 : (200 : Int) < s.size + t.size
      · go_wp2_with fail
        go_ret
        exact ⟨rfl, B3.out⟩
      · by_cases hev : F.wide = false ∨ (s.size % 2 = 0 ∧ t.size % 2 = 0)
        · have HE := hid hev
          cases hw : F.wide with
          | false =>
            rw [hw] at x0
            clear hev hw
            go_wp2_with (go_at_call 15; fail)
            go_at_call 15
            refine (numV_says size _).mono ?_
            rintro e w4 ⟨rfl, hb4⟩
            have B4 := hid (chn0 B3.out hb4)
            have M4 := hid (kept_below MAP3.out hb4)
            clear hb4 x0 zX
            go_wp2_with (go_at_call 15; fail)
            go_at_call 15
            refine (numV_says char _).mono ?_
            rintro e w5 ⟨rfl, hb5⟩
            have b45 : Below w4.heap.size w4 w5 := chn0 ((Below.refl _ _).alloc (Nat.le_refl _) (.cells #[.int .i64 4, .int .i64 0, .string ⟨#[70]⟩, .slice none 0 0, .slice none 0 0, .int .i64 2, .int .i64 size, .string ⟨#[]⟩, .slice none 0 0, .slice none 0 0] 38)) hb5
            have A1 := hid ((At.new w4 #[.int .i64 4, .int .i64 0, .string ⟨#[70]⟩, .slice none 0 0, .slice none 0 0, .int .i64 2, .int .i64 size, .string ⟨#[]⟩, .slice none 0 0, .slice none 0 0] 38 rfl).later hb5)
            have B5 := hid (chn0 B4.out b45)
            have M5 := hid (kept_below M4.out b45)
            clear hb5 b45 B4 M4
            go_wp2_with (go_at_call 15; fail)
            go_at_call 15
            refine (numV_says scale _).mono ?_
            rintro e w6 ⟨rfl, hb6⟩
            have b56 : Below w5.heap.size w5 w6 := chn0 ((Below.refl _ _).alloc (Nat.le_refl _) (.cells #[.int .i64 2, .int .i64 char, .string ⟨#[]⟩, .slice none 0 0, .slice none 0 0] 38)) hb6
            have A2 := hid ((At.new w5 #[.int .i64 2, .int .i64 char, .string ⟨#[]⟩, .slice none 0 0, .slice none 0 0] 38 rfl).later hb6)
            have A16 := hid (A1.out.later b56)
            have B6 := hid (chn0 B5.out b56)
            have M6 := hid (kept_below M5.out b56)
            clear hb6 b56 B5 M5 A1
            go_wp2_with (go_at_call 16; fail)
            have b67 : Below w6.heap.size w6 (((w6.alloc (.cells #[.int .i64 2, .int .i64 scale, .string ⟨#[]⟩, .slice none 0 0, .slice none 0 0] 38)).alloc (.cells #[.string ⟨#[66, 84]⟩, .slice none 0 0, .string ⟨#[84, 102]⟩, .slice (some ⟨w4.heap.size, 0, none⟩) 2 2, .string ⟨#[84, 99]⟩, .slice (some ⟨w5.heap.size, 0, none⟩) 1 1, .string ⟨#[84, 122]⟩, .slice (some ⟨w6.heap.size, 0, none⟩) 1 1] 41)).alloc (.cells #[.slice (some ⟨w6.heap.size + 1, 0, none⟩) 4 4] 22)) := by go_grown
            have HH : Hid (HeadAt (((w6.alloc (.cells #[.int .i64 2, .int .i64 scale, .string ⟨#[]⟩, .slice none 0 0, .slice none 0 0] 38)).alloc (.cells #[.string ⟨#[66, 84]⟩, .slice none 0 0, .string ⟨#[84, 102]⟩, .slice (some ⟨w4.heap.size, 0, none⟩) 2 2, .string ⟨#[84, 99]⟩, .slice (some ⟨w5.heap.size, 0, none⟩) 1 1, .string ⟨#[84, 122]⟩, .slice (some ⟨w6.heap.size, 0, none⟩) 1 1] 41)).alloc (.cells #[.slice (some ⟨w6.heap.size + 1, 0, none⟩) 4 4] 22)) w4.heap.size w5.heap.size w6.heap.size (w6.heap.size + 1) (w6.heap.size + 1 + 1) size char scale) := hid ⟨A16.out.later b67, A2.out.later b67, (((At.new w6 #[.int .i64 2, .int .i64 scale, .string ⟨#[]⟩, .slice none 0 0, .slice none 0 0] 38 rfl).alloc _).alloc _), ((At.new (w6.alloc (.cells #[.int .i64 2, .int .i64 scale, .string ⟨#[]⟩, .slice none 0 0, .slice none 0 0] 38)) #[.string ⟨#[66, 84]⟩, .slice none 0 0, .string ⟨#[84, 102]⟩, .slice (some ⟨w4.heap.size, 0, none⟩) 2 2, .string ⟨#[84, 99]⟩, .slice (some ⟨w5.heap.size, 0, none⟩) 1 1, .string ⟨#[84, 122]⟩, .slice (some ⟨w6.heap.size, 0, none⟩) 1 1] 41 (b := w6.heap.size + 1) (by simp)).alloc _), At.new _ _ _ (by simp)⟩
            have B7 := hid (chn0 B6.out b67)
            have M7 := hid (kept_below M6.out b67)
            clear b67 A16 A2 B6 M6
            generalize ((w6.alloc (.cells #[.int .i64 2, .int .i64 scale, .string ⟨#[]⟩, .slice none 0 0, .slice none 0 0] 38)).alloc (.cells #[.string ⟨#[66, 84]⟩, .slice none 0 0, .string ⟨#[84, 102]⟩, .slice (some ⟨w4.heap.size, 0, none⟩) 2 2, .string ⟨#[84, 99]⟩, .slice (some ⟨w5.heap.size, 0, none⟩) 1 1, .string ⟨#[84, 122]⟩, .slice (some ⟨w6.heap.size, 0, none⟩) 1 1] 41)).alloc (.cells #[.slice (some ⟨w6.heap.size + 1, 0, none⟩) 4 4] 22) = W7 at HH B7 M7 ⊢
            generalize w6.heap.size + 1 + 1 = Hp at HH ⊢
            generalize w6.heap.size + 1 = hb at HH ⊢
            generalize w6.heap.size = a3 at HH ⊢
            generalize w5.heap.size = a2 at HH ⊢
            generalize w4.heap.size = a1 at HH ⊢
            obtain ⟨r, rA, rB, rC⟩ : ∃ r, pageR (sgF F) (ffOne qF ⟨F.wide, .map i, F.miss, .map j, .slice al F.l.length cap⟩) (hd4 size char scale ++ sopA s t) = r ∧ pageR (sgF F) (ffOne qF ⟨F.wide, .map i, F.miss, .map j, .slice al F.l.length cap⟩) (hd4 size char scale ++ sopB s t) = r ∧ pageR (sgF F) (ffOne qF ⟨F.wide, .map i, F.miss, .map j, .slice al F.l.length cap⟩) (hd4 size char scale ++ sopC s t) = r := ⟨_, rfl, (split_plain F _ size char scale s t HE.out).1.symm, (split_plain F _ size char scale s t HE.out).2.symm⟩
            have RA := hid rA
            have RB := hid rB
            have RC := hid rC
            have HZ := hid (show s.size ≤ 200 ∧ t.size ≤ 200 ∧ (s ++ t).size ≤ 200 by have : (s ++ t).size = s.size + t.size := ByteArray.size_append; omega)
            clear rA rB rC
            cases r with
            | ok pp =>
              have H := HH
              have B := B7
              have M := M7
              clear HH B7 M7
              go_at_call 16
              refine (strV_says _ _).mono ?_
              rintro e w8 ⟨rfl, hb⟩
              replace H := hid (H.out.later hb)
              replace B := hid (chn0 B.out hb)
              replace M := hid (kept_below M.out hb)
              clear hb
              go_wp2_with (go_at_call 17; fail)
              have AV := hid ((At.new w8 #[.int .i64 3, .int .i64 0, .string (s ++ t), .slice none 0 0, .slice none 0 0] 38 rfl).alloc (.cells #[.string ⟨#[84, 106]⟩, .slice (some ⟨w8.heap.size, 0, none⟩) 1 1] 41))
              have AL := hid (At.new (w8.alloc (.cells #[.int .i64 3, .int .i64 0, .string (s ++ t), .slice none 0 0, .slice none 0 0] 38)) #[.string ⟨#[84, 106]⟩, .slice (some ⟨w8.heap.size, 0, none⟩) 1 1] 41 (b := w8.heap.size + 1) (by simp))
              have b : Below w8.heap.size w8 ((w8.alloc (.cells #[.int .i64 3, .int .i64 0, .string (s ++ t), .slice none 0 0, .slice none 0 0] 38)).alloc (.cells #[.string ⟨#[84, 106]⟩, .slice (some ⟨w8.heap.size, 0, none⟩) 1 1] 41)) := by go_grown
              replace H := hid (H.out.later b)
              replace B := hid (chn0 B.out b)
              replace M := hid (kept_below M.out b)
              clear b
              go_at_call 17
              refine (tail_head H.out [((nTj, [V0 3 0 (s ++ t)]), .slice (some ⟨w8.heap.size, 0, none⟩) 1 1)] _ AL.out (by simp) (by simp [opsC, Value.oneCell'])).mono ?_
              rintro e q1 ⟨⟨vv, rfl, hown⟩, hb⟩
              replace AV := hid (AV.out.later hb)
              replace H := hid (H.out.later hb)
              replace B := hid (chn0 B.out hb)
              replace M := hid (kept_below M.out hb)
              have HO := hid (ops_head H.out [((nTj, [V0 3 0 (s ++ t)]), .slice (some ⟨w8.heap.size, 0, none⟩) 1 1)] hown (fun x hx => by simp only [List.mem_cons, List.not_mem_nil, or_false] at hx; subst hx; exact ⟨by show nTj.size ≤ maxLen; unfold nTj maxLen; decide, rep_one AV.out (show (s ++ t).size ≤ maxLen by have := HZ.out; unfold maxLen; omega)⟩) (by simp))
              obtain ⟨aO, cO, rfl, _⟩ := id HO.out
              clear hb hown
              go_wp2_with (go_at_call 10; fail)
              go_at_call 10
              have hpg : Calls _ _ _ _ fun e w' => PgA _ e w' (pageR (sgF F) (ffOne qF ⟨F.wide, .map i, F.miss, .map j, .slice al F.l.length cap⟩) (hd4 size char scale ++ sopA s t)) ∧ _ := one_page (w := w) _ _ HO.out (okA_app okA_hd (okA_sop HZ.out).1) B.out HF.out HT.out HSP.out M.out
              rw [RA.out] at hpg
              refine hpg.mono ?_
              rintro e p1 ⟨⟨hln, tG, BB, rfl, _, hown⟩, hb⟩
              have HLN := hid hln
              clear hln
              obtain ⟨al1, cp1, rfl, hgl⟩ := own_gl hown
              replace H := hid (H.out.later hb)
              replace B := hid (chn0 B.out hb)
              replace M := hid (kept_below M.out hb)
              have G1 := hid hgl
              clear hb hpg hown hgl HO
              clear AV
              clear AL
              go_wp2_with (go_at_call 16; fail)
              go_at_call 16
              refine (strV_says _ _).mono ?_
              rintro e w9 ⟨rfl, hb⟩
              replace H := hid (H.out.later hb)
              replace B := hid (chn0 B.out hb)
              replace M := hid (kept_below M.out hb)
              replace G1 := hid (G1.out.later hb)
              clear hb
              have AS := hid (At.new w9 #[.int .i64 3, .int .i64 0, .string s, .slice none 0 0, .slice none 0 0] 38 rfl)
              have b : Below w9.heap.size w9 (w9.alloc (.cells #[.int .i64 3, .int .i64 0, .string s, .slice none 0 0, .slice none 0 0] 38)) := by go_grown
              replace H := hid (H.out.later b)
              replace B := hid (chn0 B.out b)
              replace M := hid (kept_below M.out b)
              replace G1 := hid (G1.out.later b)
              clear b
              go_wp2_with (go_at_call 16; fail)
              go_at_call 16
              refine (strV_says _ _).mono ?_
              rintro e w10 ⟨rfl, hb⟩
              replace H := hid (H.out.later hb)
              replace B := hid (chn0 B.out hb)
              replace M := hid (kept_below M.out hb)
              replace G1 := hid (G1.out.later hb)
              replace AS := hid (AS.out.later hb)
              clear hb
              go_wp2_with (go_at_call 17; fail)
              replace AS := hid ((AS.out.alloc (.cells #[.int .i64 3, .int .i64 0, .string t, .slice none 0 0, .slice none 0 0] 38)).alloc (.cells #[.string ⟨#[84, 106]⟩, .slice (some ⟨w9.heap.size, 0, none⟩) 1 1, .string ⟨#[84, 106]⟩, .slice (some ⟨w10.heap.size, 0, none⟩) 1 1] 41))
              have AV := hid ((At.new w10 #[.int .i64 3, .int .i64 0, .string t, .slice none 0 0, .slice none 0 0] 38 rfl).alloc (.cells #[.string ⟨#[84, 106]⟩, .slice (some ⟨w9.heap.size, 0, none⟩) 1 1, .string ⟨#[84, 106]⟩, .slice (some ⟨w10.heap.size, 0, none⟩) 1 1] 41))
              have AL := hid (At.new (w10.alloc (.cells #[.int .i64 3, .int .i64 0, .string t, .slice none 0 0, .slice none 0 0] 38)) #[.string ⟨#[84, 106]⟩, .slice (some ⟨w9.heap.size, 0, none⟩) 1 1, .string ⟨#[84, 106]⟩, .slice (some ⟨w10.heap.size, 0, none⟩) 1 1] 41 (b := w10.heap.size + 1) (by simp))
              have b : Below w10.heap.size w10 ((w10.alloc (.cells #[.int .i64 3, .int .i64 0, .string t, .slice none 0 0, .slice none 0 0] 38)).alloc (.cells #[.string ⟨#[84, 106]⟩, .slice (some ⟨w9.heap.size, 0, none⟩) 1 1, .string ⟨#[84, 106]⟩, .slice (some ⟨w10.heap.size, 0, none⟩) 1 1] 41)) := by go_grown
              replace H := hid (H.out.later b)
              replace B := hid (chn0 B.out b)
              replace M := hid (kept_below M.out b)
              replace G1 := hid (G1.out.later b)
              clear b
              go_at_call 17
              refine (tail_head H.out [((nTj, [V0 3 0 s]), .slice (some ⟨w9.heap.size, 0, none⟩) 1 1), ((nTj, [V0 3 0 t]), .slice (some ⟨w10.heap.size, 0, none⟩) 1 1)] _ AL.out (by simp) (by simp [opsC, Value.oneCell'])).mono ?_
              rintro e q2 ⟨⟨vv, rfl, hown⟩, hb⟩
              replace AV := hid (AV.out.later hb)
              replace AS := hid (AS.out.later hb)
              replace H := hid (H.out.later hb)
              replace B := hid (chn0 B.out hb)
              replace M := hid (kept_below M.out hb)
              replace G1 := hid (G1.out.later hb)
              have HO := hid (ops_head H.out [((nTj, [V0 3 0 s]), .slice (some ⟨w9.heap.size, 0, none⟩) 1 1), ((nTj, [V0 3 0 t]), .slice (some ⟨w10.heap.size, 0, none⟩) 1 1)] hown (fun x hx => by
                  simp only [List.mem_cons, List.not_mem_nil, or_false] at hx
                  rcases hx with rfl | rfl
                  · exact ⟨by show nTj.size ≤ maxLen; unfold nTj maxLen; decide, rep_one AS.out (show s.size ≤ maxLen by have := HZ.out; unfold maxLen; omega)⟩
                  · exact ⟨by show nTj.size ≤ maxLen; unfold nTj maxLen; decide, rep_one AV.out (show t.size ≤ maxLen by have := HZ.out; unfold maxLen; omega)⟩) (by simp))
              obtain ⟨aO, cO, rfl, _⟩ := id HO.out
              clear hb hown
              go_wp2_with (go_at_call 10; fail)
              go_at_call 10
              have hpg : Calls _ _ _ _ fun e w' => PgA _ e w' (pageR (sgF F) (ffOne qF ⟨F.wide, .map i, F.miss, .map j, .slice al F.l.length cap⟩) (hd4 size char scale ++ sopB s t)) ∧ _ := one_page (w := w) _ _ HO.out (okA_app okA_hd (okA_sop HZ.out).2.1) B.out HF.out HT.out HSP.out M.out
              rw [RB.out] at hpg
              refine hpg.mono ?_
              rintro e p2 ⟨⟨_, tG, BB, rfl, _, hown⟩, hb⟩
              obtain ⟨al2, cp2, rfl, hgl⟩ := own_gl hown
              replace H := hid (H.out.later hb)
              replace B := hid (chn0 B.out hb)
              replace M := hid (kept_below M.out hb)
              replace G1 := hid (G1.out.later hb)
              have G2 := hid hgl
              clear hb hpg hown hgl HO
              clear AV
              clear AS
              clear AL
              go_wp2_with (go_at_call 16; fail)
              go_at_call 16
              refine (strV_says _ _).mono ?_
              rintro e w11 ⟨rfl, hb⟩
              replace H := hid (H.out.later hb)
              replace B := hid (chn0 B.out hb)
              replace M := hid (kept_below M.out hb)
              replace G1 := hid (G1.out.later hb)
              replace G2 := hid (G2.out.later hb)
              clear hb
              go_wp2_with (go_at_call 16; fail)
              go_at_call 16
              refine (strV_says _ _).mono ?_
              rintro e w12 ⟨rfl, hb⟩
              replace H := hid (H.out.later hb)
              replace B := hid (chn0 B.out hb)
              replace M := hid (kept_below M.out hb)
              replace G1 := hid (G1.out.later hb)
              replace G2 := hid (G2.out.later hb)
              clear hb
              go_wp2_with (go_at_call 17; fail)
              have AS := hid (((At.new w12 #[.int .i64 3, .int .i64 0, .string s, .slice none 0 0, .slice none 0 0, .int .i64 3, .int .i64 0, .string t, .slice none 0 0, .slice none 0 0] 38 rfl).alloc (.cells #[.int .i64 5, .int .i64 0, .string ⟨#[]⟩, .slice (some ⟨w12.heap.size, 0, none⟩) 2 2, .slice none 0 0] 38)).alloc (.cells #[.string ⟨#[84, 74]⟩, .slice (some ⟨w12.heap.size + 1, 0, none⟩) 1 1] 41))
              have AV := hid ((At.new (w12.alloc (.cells #[.int .i64 3, .int .i64 0, .string s, .slice none 0 0, .slice none 0 0, .int .i64 3, .int .i64 0, .string t, .slice none 0 0, .slice none 0 0] 38)) #[.int .i64 5, .int .i64 0, .string ⟨#[]⟩, .slice (some ⟨w12.heap.size, 0, none⟩) 2 2, .slice none 0 0] 38 (b := w12.heap.size + 1) (by simp)).alloc (.cells #[.string ⟨#[84, 74]⟩, .slice (some ⟨w12.heap.size + 1, 0, none⟩) 1 1] 41))
              have AL := hid (At.new ((w12.alloc (.cells #[.int .i64 3, .int .i64 0, .string s, .slice none 0 0, .slice none 0 0, .int .i64 3, .int .i64 0, .string t, .slice none 0 0, .slice none 0 0] 38)).alloc (.cells #[.int .i64 5, .int .i64 0, .string ⟨#[]⟩, .slice (some ⟨w12.heap.size, 0, none⟩) 2 2, .slice none 0 0] 38)) #[.string ⟨#[84, 74]⟩, .slice (some ⟨w12.heap.size + 1, 0, none⟩) 1 1] 41 (b := w12.heap.size + 1 + 1) (by simp))
              have b : Below w12.heap.size w12 (((w12.alloc (.cells #[.int .i64 3, .int .i64 0, .string s, .slice none 0 0, .slice none 0 0, .int .i64 3, .int .i64 0, .string t, .slice none 0 0, .slice none 0 0] 38)).alloc (.cells #[.int .i64 5, .int .i64 0, .string ⟨#[]⟩, .slice (some ⟨w12.heap.size, 0, none⟩) 2 2, .slice none 0 0] 38)).alloc (.cells #[.string ⟨#[84, 74]⟩, .slice (some ⟨w12.heap.size + 1, 0, none⟩) 1 1] 41)) := by go_grown
              replace H := hid (H.out.later b)
              replace B := hid (chn0 B.out b)
              replace M := hid (kept_below M.out b)
              replace G1 := hid (G1.out.later b)
              replace G2 := hid (G2.out.later b)
              clear b
              go_at_call 17
              refine (tail_head H.out [((nTJ, [⟨5, 0, eB, [V0 3 0 s, V0 3 0 t], []⟩]), .slice (some ⟨w12.heap.size + 1, 0, none⟩) 1 1)] _ AL.out (by simp) (by simp [opsC, Value.oneCell'])).mono ?_
              rintro e q3 ⟨⟨vv, rfl, hown⟩, hb⟩
              replace AV := hid (AV.out.later hb)
              replace AS := hid (AS.out.later hb)
              replace H := hid (H.out.later hb)
              replace B := hid (chn0 B.out hb)
              replace M := hid (kept_below M.out hb)
              replace G1 := hid (G1.out.later hb)
              replace G2 := hid (G2.out.later hb)
              have HO := hid (ops_head H.out [((nTJ, [⟨5, 0, eB, [V0 3 0 s, V0 3 0 t], []⟩]), .slice (some ⟨w12.heap.size + 1, 0, none⟩) 1 1)] hown (fun x hx => by simp only [List.mem_cons, List.not_mem_nil, or_false] at hx; subst hx; exact ⟨by show nTJ.size ≤ maxLen; unfold nTJ maxLen; decide, rep_two AS.out AV.out (show s.size ≤ maxLen by have := HZ.out; unfold maxLen; omega) (show t.size ≤ maxLen by have := HZ.out; unfold maxLen; omega)⟩) (by simp))
              obtain ⟨aO, cO, rfl, _⟩ := id HO.out
              clear hb hown
              go_wp2_with (go_at_call 10; fail)
              go_at_call 10
              have hpg : Calls _ _ _ _ fun e w' => PgA _ e w' (pageR (sgF F) (ffOne qF ⟨F.wide, .map i, F.miss, .map j, .slice al F.l.length cap⟩) (hd4 size char scale ++ sopC s t)) ∧ _ := one_page (w := w) _ _ HO.out (okA_app okA_hd (okA_sop HZ.out).2.2) B.out HF.out HT.out HSP.out M.out
              rw [RC.out] at hpg
              refine hpg.mono ?_
              rintro e p3 ⟨⟨_, tG, BB, rfl, _, hown⟩, hb⟩
              obtain ⟨al3, cp3, rfl, hgl⟩ := own_gl hown
              replace H := hid (H.out.later hb)
              replace B := hid (chn0 B.out hb)
              replace M := hid (kept_below M.out hb)
              replace G1 := hid (G1.out.later hb)
              replace G2 := hid (G2.out.later hb)
              have G3 := hid hgl
              clear hb hpg hown hgl HO
              clear AV
              clear AS
              clear AL
              obtain ⟨hlen⟩ : Nonempty (pp.out.length ≤ 100000) := ⟨by have := HLN.out; omega⟩
              go_wp2_with (first | (go_at_call 12; refine (numb_nil _).mono ?_; rintro e ww ⟨rfl, rfl⟩) | (go_at_call 14; fail))
              go_at_call 14
              refine (same_glyphs pp.out _ _ _ _ _ hlen G1.out G2.out).mono ?_
              rintro e y1 ⟨rfl, hb⟩
              replace H := hid (H.out.later hb)
              replace B := hid (chn0 B.out hb)
              replace M := hid (kept_below M.out hb)
              replace G1 := hid (G1.out.later hb)
              replace G2 := hid (G2.out.later hb)
              replace G3 := hid (G3.out.later hb)
              clear hb
              go_wp2_with (first | (go_at_call 12; refine (numb_nil _).mono ?_; rintro e ww ⟨rfl, rfl⟩) | (go_at_call 14; fail))
              go_at_call 14
              refine (same_glyphs pp.out _ _ _ _ _ hlen G1.out G3.out).mono ?_
              rintro e y2 ⟨rfl, hb⟩
              replace H := hid (H.out.later hb)
              replace B := hid (chn0 B.out hb)
              replace M := hid (kept_below M.out hb)
              replace G1 := hid (G1.out.later hb)
              replace G2 := hid (G2.out.later hb)
              replace G3 := hid (G3.out.later hb)
              clear hb
              go_wp2_with fail
              go_ret
              exact ⟨rfl, B.out⟩
            | error k =>
              have H := HH
              have B := B7
              have M := M7
              clear HH B7 M7
              go_at_call 16
              refine (strV_says _ _).mono ?_
              rintro e w8 ⟨rfl, hb⟩
              replace H := hid (H.out.later hb)
              replace B := hid (chn0 B.out hb)
              replace M := hid (kept_below M.out hb)
              clear hb
              go_wp2_with (go_at_call 17; fail)
              have AV := hid ((At.new w8 #[.int .i64 3, .int .i64 0, .string (s ++ t), .slice none 0 0, .slice none 0 0] 38 rfl).alloc (.cells #[.string ⟨#[84, 106]⟩, .slice (some ⟨w8.heap.size, 0, none⟩) 1 1] 41))
              have AL := hid (At.new (w8.alloc (.cells #[.int .i64 3, .int .i64 0, .string (s ++ t), .slice none 0 0, .slice none 0 0] 38)) #[.string ⟨#[84, 106]⟩, .slice (some ⟨w8.heap.size, 0, none⟩) 1 1] 41 (b := w8.heap.size + 1) (by simp))
              have b : Below w8.heap.size w8 ((w8.alloc (.cells #[.int .i64 3, .int .i64 0, .string (s ++ t), .slice none 0 0, .slice none 0 0] 38)).alloc (.cells #[.string ⟨#[84, 106]⟩, .slice (some ⟨w8.heap.size, 0, none⟩) 1 1] 41)) := by go_grown
              replace H := hid (H.out.later b)
              replace B := hid (chn0 B.out b)
              replace M := hid (kept_below M.out b)
              clear b
              go_at_call 17
              refine (tail_head H.out [((nTj, [V0 3 0 (s ++ t)]), .slice (some ⟨w8.heap.size, 0, none⟩) 1 1)] _ AL.out (by simp) (by simp [opsC, Value.oneCell'])).mono ?_
              rintro e q1 ⟨⟨vv, rfl, hown⟩, hb⟩
              replace AV := hid (AV.out.later hb)
              replace H := hid (H.out.later hb)
              replace B := hid (chn0 B.out hb)
              replace M := hid (kept_below M.out hb)
              have HO := hid (ops_head H.out [((nTj, [V0 3 0 (s ++ t)]), .slice (some ⟨w8.heap.size, 0, none⟩) 1 1)] hown (fun x hx => by simp only [List.mem_cons, List.not_mem_nil, or_false] at hx; subst hx; exact ⟨by show nTj.size ≤ maxLen; unfold nTj maxLen; decide, rep_one AV.out (show (s ++ t).size ≤ maxLen by have := HZ.out; unfold maxLen; omega)⟩) (by simp))
              obtain ⟨aO, cO, rfl, _⟩ := id HO.out
              clear hb hown
              go_wp2_with (go_at_call 10; fail)
              go_at_call 10
              have hpg : Calls _ _ _ _ fun e w' => PgA _ e w' (pageR (sgF F) (ffOne qF ⟨F.wide, .map i, F.miss, .map j, .slice al F.l.length cap⟩) (hd4 size char scale ++ sopA s t)) ∧ _ := one_page (w := w) _ _ HO.out (okA_app okA_hd (okA_sop HZ.out).1) B.out HF.out HT.out HSP.out M.out
              rw [RA.out] at hpg
              refine hpg.mono ?_
              rintro e p1 ⟨he, hb⟩
              cases (show e = .returned (.tuple #[.slice none 0 0, .iface 68 (.int .i64 k)]) from he)
              replace H := hid (H.out.later hb)
              replace B := hid (chn0 B.out hb)
              replace M := hid (kept_below M.out hb)
              clear hb hpg he HO
              clear AV
              clear AL
              go_wp2_with (go_at_call 16; fail)
              go_at_call 16
              refine (strV_says _ _).mono ?_
              rintro e w9 ⟨rfl, hb⟩
              replace H := hid (H.out.later hb)
              replace B := hid (chn0 B.out hb)
              replace M := hid (kept_below M.out hb)
              clear hb
              have AS := hid (At.new w9 #[.int .i64 3, .int .i64 0, .string s, .slice none 0 0, .slice none 0 0] 38 rfl)
              have b : Below w9.heap.size w9 (w9.alloc (.cells #[.int .i64 3, .int .i64 0, .string s, .slice none 0 0, .slice none 0 0] 38)) := by go_grown
              replace H := hid (H.out.later b)
              replace B := hid (chn0 B.out b)
              replace M := hid (kept_below M.out b)
              clear b
              go_wp2_with (go_at_call 16; fail)
              go_at_call 16
              refine (strV_says _ _).mono ?_
              rintro e w10 ⟨rfl, hb⟩
              replace H := hid (H.out.later hb)
              replace B := hid (chn0 B.out hb)
              replace M := hid (kept_below M.out hb)
              replace AS := hid (AS.out.later hb)
              clear hb
              go_wp2_with (go_at_call 17; fail)
              replace AS := hid ((AS.out.alloc (.cells #[.int .i64 3, .int .i64 0, .string t, .slice none 0 0, .slice none 0 0] 38)).alloc (.cells #[.string ⟨#[84, 106]⟩, .slice (some ⟨w9.heap.size, 0, none⟩) 1 1, .string ⟨#[84, 106]⟩, .slice (some ⟨w10.heap.size, 0, none⟩) 1 1] 41))
              have AV := hid ((At.new w10 #[.int .i64 3, .int .i64 0, .string t, .slice none 0 0, .slice none 0 0] 38 rfl).alloc (.cells #[.string ⟨#[84, 106]⟩, .slice (some ⟨w9.heap.size, 0, none⟩) 1 1, .string ⟨#[84, 106]⟩, .slice (some ⟨w10.heap.size, 0, none⟩) 1 1] 41))
              have AL := hid (At.new (w10.alloc (.cells #[.int .i64 3, .int .i64 0, .string t, .slice none 0 0, .slice none 0 0] 38)) #[.string ⟨#[84, 106]⟩, .slice (some ⟨w9.heap.size, 0, none⟩) 1 1, .string ⟨#[84, 106]⟩, .slice (some ⟨w10.heap.size, 0, none⟩) 1 1] 41 (b := w10.heap.size + 1) (by simp))
              have b : Below w10.heap.size w10 ((w10.alloc (.cells #[.int .i64 3, .int .i64 0, .string t, .slice none 0 0, .slice none 0 0] 38)).alloc (.cells #[.string ⟨#[84, 106]⟩, .slice (some ⟨w9.heap.size, 0, none⟩) 1 1, .string ⟨#[84, 106]⟩, .slice (some ⟨w10.heap.size, 0, none⟩) 1 1] 41)) := by go_grown
              replace H := hid (H.out.later b)
              replace B := hid (chn0 B.out b)
              replace M := hid (kept_below M.out b)
              clear b
              go_at_call 17
              refine (tail_head H.out [((nTj, [V0 3 0 s]), .slice (some ⟨w9.heap.size, 0, none⟩) 1 1), ((nTj, [V0 3 0 t]), .slice (some ⟨w10.heap.size, 0, none⟩) 1 1)] _ AL.out (by simp) (by simp [opsC, Value.oneCell'])).mono ?_
              rintro e q2 ⟨⟨vv, rfl, hown⟩, hb⟩
              replace AV := hid (AV.out.later hb)
              replace AS := hid (AS.out.later hb)
              replace H := hid (H.out.later hb)
              replace B := hid (chn0 B.out hb)
              replace M := hid (kept_below M.out hb)
              have HO := hid (ops_head H.out [((nTj, [V0 3 0 s]), .slice (some ⟨w9.heap.size, 0, none⟩) 1 1), ((nTj, [V0 3 0 t]), .slice (some ⟨w10.heap.size, 0, none⟩) 1 1)] hown (fun x hx => by
                  simp only [List.mem_cons, List.not_mem_nil, or_false] at hx
                  rcases hx with rfl | rfl
                  · exact ⟨by show nTj.size ≤ maxLen; unfold nTj maxLen; decide, rep_one AS.out (show s.size ≤ maxLen by have := HZ.out; unfold maxLen; omega)⟩
                  · exact ⟨by show nTj.size ≤ maxLen; unfold nTj maxLen; decide, rep_one AV.out (show t.size ≤ maxLen by have := HZ.out; unfold maxLen; omega)⟩) (by simp))
              obtain ⟨aO, cO, rfl, _⟩ := id HO.out
              clear hb hown
              go_wp2_with (go_at_call 10; fail)
              go_at_call 10
              have hpg : Calls _ _ _ _ fun e w' => PgA _ e w' (pageR (sgF F) (ffOne qF ⟨F.wide, .map i, F.miss, .map j, .slice al F.l.length cap⟩) (hd4 size char scale ++ sopB s t)) ∧ _ := one_page (w := w) _ _ HO.out (okA_app okA_hd (okA_sop HZ.out).2.1) B.out HF.out HT.out HSP.out M.out
              rw [RB.out] at hpg
              refine hpg.mono ?_
              rintro e p2 ⟨he, hb⟩
              cases (show e = .returned (.tuple #[.slice none 0 0, .iface 68 (.int .i64 k)]) from he)
              replace H := hid (H.out.later hb)
              replace B := hid (chn0 B.out hb)
              replace M := hid (kept_below M.out hb)
              clear hb hpg he HO
              clear AV
              clear AS
              clear AL
              go_wp2_with (go_at_call 16; fail)
              go_at_call 16
              refine (strV_says _ _).mono ?_
              rintro e w11 ⟨rfl, hb⟩
              replace H := hid (H.out.later hb)
              replace B := hid (chn0 B.out hb)
              replace M := hid (kept_below M.out hb)
              clear hb
              go_wp2_with (go_at_call 16; fail)
              go_at_call 16
              refine (strV_says _ _).mono ?_
              rintro e w12 ⟨rfl, hb⟩
              replace H := hid (H.out.later hb)
              replace B := hid (chn0 B.out hb)
              replace M := hid (kept_below M.out hb)
              clear hb
              go_wp2_with (go_at_call 17; fail)
              have AS := hid (((At.new w12 #[.int .i64 3, .int .i64 0, .string s, .slice none 0 0, .slice none 0 0, .int .i64 3, .int .i64 0, .string t, .slice none 0 0, .slice none 0 0] 38 rfl).alloc (.cells #[.int .i64 5, .int .i64 0, .string ⟨#[]⟩, .slice (some ⟨w12.heap.size, 0, none⟩) 2 2, .slice none 0 0] 38)).alloc (.cells #[.string ⟨#[84, 74]⟩, .slice (some ⟨w12.heap.size + 1, 0, none⟩) 1 1] 41))
              have AV := hid ((At.new (w12.alloc (.cells #[.int .i64 3, .int .i64 0, .string s, .slice none 0 0, .slice none 0 0, .int .i64 3, .int .i64 0, .string t, .slice none 0 0, .slice none 0 0] 38)) #[.int .i64 5, .int .i64 0, .string ⟨#[]⟩, .slice (some ⟨w12.heap.size, 0, none⟩) 2 2, .slice none 0 0] 38 (b := w12.heap.size + 1) (by simp)).alloc (.cells #[.string ⟨#[84, 74]⟩, .slice (some ⟨w12.heap.size + 1, 0, none⟩) 1 1] 41))
              have AL := hid (At.new ((w12.alloc (.cells #[.int .i64 3, .int .i64 0, .string s, .slice none 0 0, .slice none 0 0, .int .i64 3, .int .i64 0, .string t, .slice none 0 0, .slice none 0 0] 38)).alloc (.cells #[.int .i64 5, .int .i64 0, .string ⟨#[]⟩, .slice (some ⟨w12.heap.size, 0, none⟩) 2 2, .slice none 0 0] 38)) #[.string ⟨#[84, 74]⟩, .slice (some ⟨w12.heap.size + 1, 0, none⟩) 1 1] 41 (b := w12.heap.size + 1 + 1) (by simp))
              have b : Below w12.heap.size w12 (((w12.alloc (.cells #[.int .i64 3, .int .i64 0, .string s, .slice none 0 0, .slice none 0 0, .int .i64 3, .int .i64 0, .string t, .slice none 0 0, .slice none 0 0] 38)).alloc (.cells #[.int .i64 5, .int .i64 0, .string ⟨#[]⟩, .slice (some ⟨w12.heap.size, 0, none⟩) 2 2, .slice none 0 0] 38)).alloc (.cells #[.string ⟨#[84, 74]⟩, .slice (some ⟨w12.heap.size + 1, 0, none⟩) 1 1] 41)) := by go_grown
              replace H := hid (H.out.later b)
              replace B := hid (chn0 B.out b)
              replace M := hid (kept_below M.out b)
              clear b
              go_at_call 17
              refine (tail_head H.out [((nTJ, [⟨5, 0, eB, [V0 3 0 s, V0 3 0 t], []⟩]), .slice (some ⟨w12.heap.size + 1, 0, none⟩) 1 1)] _ AL.out (by simp) (by simp [opsC, Value.oneCell'])).mono ?_
              rintro e q3 ⟨⟨vv, rfl, hown⟩, hb⟩
              replace AV := hid (AV.out.later hb)
              replace AS := hid (AS.out.later hb)
              replace H := hid (H.out.later hb)
              replace B := hid (chn0 B.out hb)
              replace M := hid (kept_below M.out hb)
              have HO := hid (ops_head H.out [((nTJ, [⟨5, 0, eB, [V0 3 0 s, V0 3 0 t], []⟩]), .slice (some ⟨w12.heap.size + 1, 0, none⟩) 1 1)] hown (fun x hx => by simp only [List.mem_cons, List.not_mem_nil, or_false] at hx; subst hx; exact ⟨by show nTJ.size ≤ maxLen; unfold nTJ maxLen; decide, rep_two AS.out AV.out (show s.size ≤ maxLen by have := HZ.out; unfold maxLen; omega) (show t.size ≤ maxLen by have := HZ.out; unfold maxLen; omega)⟩) (by simp))
              obtain ⟨aO, cO, rfl, _⟩ := id HO.out
              clear hb hown
              go_wp2_with (go_at_call 10; fail)
              go_at_call 10
              have hpg : Calls _ _ _ _ fun e w' => PgA _ e w' (pageR (sgF F) (ffOne qF ⟨F.wide, .map i, F.miss, .map j, .slice al F.l.length cap⟩) (hd4 size char scale ++ sopC s t)) ∧ _ := one_page (w := w) _ _ HO.out (okA_app okA_hd (okA_sop HZ.out).2.2) B.out HF.out HT.out HSP.out M.out
              rw [RC.out] at hpg
              refine hpg.mono ?_
              rintro e p3 ⟨he, hb⟩
              cases (show e = .returned (.tuple #[.slice none 0 0, .iface 68 (.int .i64 k)]) from he)
              replace H := hid (H.out.later hb)
              replace B := hid (chn0 B.out hb)
              replace M := hid (kept_below M.out hb)
              clear hb hpg he HO
              clear AV
              clear AS
              clear AL
              go_wp2_with (first | (go_at_call 12; refine (numb_err _ _).mono ?_; rintro e ww ⟨rfl, rfl⟩) | (go_at_call 14; fail))
              go_at_call 14
              refine (same_glyphs [] none none 0 0 _ (by simp) (fun i x hx => by simp at hx) (fun i x hx => by simp at hx)).mono ?_
              rintro e y1 ⟨rfl, hb⟩
              replace H := hid (H.out.later hb)
              replace B := hid (chn0 B.out hb)
              replace M := hid (kept_below M.out hb)
              clear hb
              go_wp2_with (first | (go_at_call 12; refine (numb_err _ _).mono ?_; rintro e ww ⟨rfl, rfl⟩) | (go_at_call 14; fail))
              go_at_call 14
              refine (same_glyphs [] none none 0 0 _ (by simp) (fun i x hx => by simp at hx) (fun i x hx => by simp at hx)).mono ?_
              rintro e y2 ⟨rfl, hb⟩
              replace H := hid (H.out.later hb)
              replace B := hid (chn0 B.out hb)
              replace M := hid (kept_below M.out hb)
              clear hb
              go_wp2_with fail
              go_ret
              exact ⟨rfl, B.out⟩
          | true =>
            rw [hw] at x0
            have he : s.size % 2 = 0 ∧ t.size % 2 = 0 := by
              rcases hev with h | h
              · rw [hw] at h; cases h
              · exact h
            have e1 : ((s.size : Int) % 2 == 1) = false := by simp; omega
            have e2 : ((t.size : Int) % 2 == 1) = false := by simp; omega
            have f1 : ¬ (s.size : Int) % 2 = 1 := by omega
            have f2 : ¬ (t.size : Int) % 2 = 1 := by omega
            clear hev hw he
            go_wp2_with (go_at_call 15; fail)
            go_at_call 15
            refine (numV_says size _).mono ?_
            rintro e w4 ⟨rfl, hb4⟩
            have B4 := hid (chn0 B3.out hb4)
            have M4 := hid (kept_below MAP3.out hb4)
            clear hb4 x0 zX e1 e2 f1 f2
            go_wp2_with (go_at_call 15; fail)
            go_at_call 15
            refine (numV_says char _).mono ?_
            rintro e w5 ⟨rfl, hb5⟩
            have b45 : Below w4.heap.size w4 w5 := chn0 ((Below.refl _ _).alloc (Nat.le_refl _) (.cells #[.int .i64 4, .int .i64 0, .string ⟨#[70]⟩, .slice none 0 0, .slice none 0 0, .int .i64 2, .int .i64 size, .string ⟨#[]⟩, .slice none 0 0, .slice none 0 0] 38)) hb5
            have A1 := hid ((At.new w4 #[.int .i64 4, .int .i64 0, .string ⟨#[70]⟩, .slice none 0 0, .slice none 0 0, .int .i64 2, .int .i64 size, .string ⟨#[]⟩, .slice none 0 0, .slice none 0 0] 38 rfl).later hb5)
            have B5 := hid (chn0 B4.out b45)
            have M5 := hid (kept_below M4.out b45)
            clear hb5 b45 B4 M4
            go_wp2_with (go_at_call 15; fail)
            go_at_call 15
            refine (numV_says scale _).mono ?_
            rintro e w6 ⟨rfl, hb6⟩
            have b56 : Below w5.heap.size w5 w6 := chn0 ((Below.refl _ _).alloc (Nat.le_refl _) (.cells #[.int .i64 2, .int .i64 char, .string ⟨#[]⟩, .slice none 0 0, .slice none 0 0] 38)) hb6
            have A2 := hid ((At.new w5 #[.int .i64 2, .int .i64 char, .string ⟨#[]⟩, .slice none 0 0, .slice none 0 0] 38 rfl).later hb6)
            have A16 := hid (A1.out.later b56)
            have B6 := hid (chn0 B5.out b56)
            have M6 := hid (kept_below M5.out b56)
            clear hb6 b56 B5 M5 A1
            go_wp2_with (go_at_call 16; fail)
            have b67 : Below w6.heap.size w6 (((w6.alloc (.cells #[.int .i64 2, .int .i64 scale, .string ⟨#[]⟩, .slice none 0 0, .slice none 0 0] 38)).alloc (.cells #[.string ⟨#[66, 84]⟩, .slice none 0 0, .string ⟨#[84, 102]⟩, .slice (some ⟨w4.heap.size, 0, none⟩) 2 2, .string ⟨#[84, 99]⟩, .slice (some ⟨w5.heap.size, 0, none⟩) 1 1, .string ⟨#[84, 122]⟩, .slice (some ⟨w6.heap.size, 0, none⟩) 1 1] 41)).alloc (.cells #[.slice (some ⟨w6.heap.size + 1, 0, none⟩) 4 4] 22)) := by go_grown
            have HH : Hid (HeadAt (((w6.alloc (.cells #[.int .i64 2, .int .i64 scale, .string ⟨#[]⟩, .slice none 0 0, .slice none 0 0] 38)).alloc (.cells #[.string ⟨#[66, 84]⟩, .slice none 0 0, .string ⟨#[84, 102]⟩, .slice (some ⟨w4.heap.size, 0, none⟩) 2 2, .string ⟨#[84, 99]⟩, .slice (some ⟨w5.heap.size, 0, none⟩) 1 1, .string ⟨#[84, 122]⟩, .slice (some ⟨w6.heap.size, 0, none⟩) 1 1] 41)).alloc (.cells #[.slice (some ⟨w6.heap.size + 1, 0, none⟩) 4 4] 22)) w4.heap.size w5.heap.size w6.heap.size (w6.heap.size + 1) (w6.heap.size + 1 + 1) size char scale) := hid ⟨A16.out.later b67, A2.out.later b67, (((At.new w6 #[.int .i64 2, .int .i64 scale, .string ⟨#[]⟩, .slice none 0 0, .slice none 0 0] 38 rfl).alloc _).alloc _), ((At.new (w6.alloc (.cells #[.int .i64 2, .int .i64 scale, .string ⟨#[]⟩, .slice none 0 0, .slice none 0 0] 38)) #[.string ⟨#[66, 84]⟩, .slice none 0 0, .string ⟨#[84, 102]⟩, .slice (some ⟨w4.heap.size, 0, none⟩) 2 2, .string ⟨#[84, 99]⟩, .slice (some ⟨w5.heap.size, 0, none⟩) 1 1, .string ⟨#[84, 122]⟩, .slice (some ⟨w6.heap.size, 0, none⟩) 1 1] 41 (b := w6.heap.size + 1) (by simp)).alloc _), At.new _ _ _ (by simp)⟩
            have B7 := hid (chn0 B6.out b67)
            have M7 := hid (kept_below M6.out b67)
            clear b67 A16 A2 B6 M6
            generalize ((w6.alloc (.cells #[.int .i64 2, .int .i64 scale, .string ⟨#[]⟩, .slice none 0 0, .slice none 0 0] 38)).alloc (.cells #[.string ⟨#[66, 84]⟩, .slice none 0 0, .string ⟨#[84, 102]⟩, .slice (some ⟨w4.heap.size, 0, none⟩) 2 2, .string ⟨#[84, 99]⟩, .slice (some ⟨w5.heap.size, 0, none⟩) 1 1, .string ⟨#[84, 122]⟩, .slice (some ⟨w6.heap.size, 0, none⟩) 1 1] 41)).alloc (.cells #[.slice (some ⟨w6.heap.size + 1, 0, none⟩) 4 4] 22) = W7 at HH B7 M7 ⊢
            generalize w6.heap.size + 1 + 1 = Hp at HH ⊢
            generalize w6.heap.size + 1 = hb at HH ⊢
            generalize w6.heap.size = a3 at HH ⊢
            generalize w5.heap.size = a2 at HH ⊢
            generalize w4.heap.size = a1 at HH ⊢
            obtain ⟨r, rA, rB, rC⟩ : ∃ r, pageR (sgF F) (ffOne qF ⟨F.wide, .map i, F.miss, .map j, .slice al F.l.length cap⟩) (hd4 size char scale ++ sopA s t) = r ∧ pageR (sgF F) (ffOne qF ⟨F.wide, .map i, F.miss, .map j, .slice al F.l.length cap⟩) (hd4 size char scale ++ sopB s t) = r ∧ pageR (sgF F) (ffOne qF ⟨F.wide, .map i, F.miss, .map j, .slice al F.l.length cap⟩) (hd4 size char scale ++ sopC s t) = r := ⟨_, rfl, (split_plain F _ size char scale s t HE.out).1.symm, (split_plain F _ size char scale s t HE.out).2.symm⟩
            have RA := hid rA
            have RB := hid rB
            have RC := hid rC
            have HZ := hid (show s.size ≤ 200 ∧ t.size ≤ 200 ∧ (s ++ t).size ≤ 200 by have : (s ++ t).size = s.size + t.size := ByteArray.size_append; omega)
            clear rA rB rC
            cases r with
            | ok pp =>
              have H := HH
              have B := B7
              have M := M7
              clear HH B7 M7
              go_at_call 16
              refine (strV_says _ _).mono ?_
              rintro e w8 ⟨rfl, hb⟩
              replace H := hid (H.out.later hb)
              replace B := hid (chn0 B.out hb)
              replace M := hid (kept_below M.out hb)
              clear hb
              go_wp2_with (go_at_call 17; fail)
              have AV := hid ((At.new w8 #[.int .i64 3, .int .i64 0, .string (s ++ t), .slice none 0 0, .slice none 0 0] 38 rfl).alloc (.cells #[.string ⟨#[84, 106]⟩, .slice (some ⟨w8.heap.size, 0, none⟩) 1 1] 41))
              have AL := hid (At.new (w8.alloc (.cells #[.int .i64 3, .int .i64 0, .string (s ++ t), .slice none 0 0, .slice none 0 0] 38)) #[.string ⟨#[84, 106]⟩, .slice (some ⟨w8.heap.size, 0, none⟩) 1 1] 41 (b := w8.heap.size + 1) (by simp))
              have b : Below w8.heap.size w8 ((w8.alloc (.cells #[.int .i64 3, .int .i64 0, .string (s ++ t), .slice none 0 0, .slice none 0 0] 38)).alloc (.cells #[.string ⟨#[84, 106]⟩, .slice (some ⟨w8.heap.size, 0, none⟩) 1 1] 41)) := by go_grown
              replace H := hid (H.out.later b)
              replace B := hid (chn0 B.out b)
              replace M := hid (kept_below M.out b)
              clear b
              go_at_call 17
              refine (tail_head H.out [((nTj, [V0 3 0 (s ++ t)]), .slice (some ⟨w8.heap.size, 0, none⟩) 1 1)] _ AL.out (by simp) (by simp [opsC, Value.oneCell'])).mono ?_
              rintro e q1 ⟨⟨vv, rfl, hown⟩, hb⟩
              replace AV := hid (AV.out.later hb)
              replace H := hid (H.out.later hb)
              replace B := hid (chn0 B.out hb)
              replace M := hid (kept_below M.out hb)
              have HO := hid (ops_head H.out [((nTj, [V0 3 0 (s ++ t)]), .slice (some ⟨w8.heap.size, 0, none⟩) 1 1)] hown (fun x hx => by simp only [List.mem_cons, List.not_mem_nil, or_false] at hx; subst hx; exact ⟨by show nTj.size ≤ maxLen; unfold nTj maxLen; decide, rep_one AV.out (show (s ++ t).size ≤ maxLen by have := HZ.out; unfold maxLen; omega)⟩) (by simp))
              obtain ⟨aO, cO, rfl, _⟩ := id HO.out
              clear hb hown
              go_wp2_with (go_at_call 10; fail)
              go_at_call 10
              have hpg : Calls _ _ _ _ fun e w' => PgA _ e w' (pageR (sgF F) (ffOne qF ⟨F.wide, .map i, F.miss, .map j, .slice al F.l.length cap⟩) (hd4 size char scale ++ sopA s t)) ∧ _ := one_page (w := w) _ _ HO.out (okA_app okA_hd (okA_sop HZ.out).1) B.out HF.out HT.out HSP.out M.out
              rw [RA.out] at hpg
              refine hpg.mono ?_
              rintro e p1 ⟨⟨hln, tG, BB, rfl, _, hown⟩, hb⟩
              have HLN := hid hln
              clear hln
              obtain ⟨al1, cp1, rfl, hgl⟩ := own_gl hown
              replace H := hid (H.out.later hb)
              replace B := hid (chn0 B.out hb)
              replace M := hid (kept_below M.out hb)
              have G1 := hid hgl
              clear hb hpg hown hgl HO
              clear AV
              clear AL
              go_wp2_with (go_at_call 16; fail)
              go_at_call 16
              refine (strV_says _ _).mono ?_
              rintro e w9 ⟨rfl, hb⟩
              replace H := hid (H.out.later hb)
              replace B := hid (chn0 B.out hb)
              replace M := hid (kept_below M.out hb)
              replace G1 := hid (G1.out.later hb)
              clear hb
              have AS := hid (At.new w9 #[.int .i64 3, .int .i64 0, .string s, .slice none 0 0, .slice none 0 0] 38 rfl)
              have b : Below w9.heap.size w9 (w9.alloc (.cells #[.int .i64 3, .int .i64 0, .string s, .slice none 0 0, .slice none 0 0] 38)) := by go_grown
              replace H := hid (H.out.later b)
              replace B := hid (chn0 B.out b)
              replace M := hid (kept_below M.out b)
              replace G1 := hid (G1.out.later b)
              clear b
              go_wp2_with (go_at_call 16; fail)
              go_at_call 16
              refine (strV_says _ _).mono ?_
              rintro e w10 ⟨rfl, hb⟩
              replace H := hid (H.out.later hb)
              replace B := hid (chn0 B.out hb)
              replace M := hid (kept_below M.out hb)
              replace G1 := hid (G1.out.later hb)
              replace AS := hid (AS.out.later hb)
              clear hb
              go_wp2_with (go_at_call 17; fail)
              replace AS := hid ((AS.out.alloc (.cells #[.int .i64 3, .int .i64 0, .string t, .slice none 0 0, .slice none 0 0] 38)).alloc (.cells #[.string ⟨#[84, 106]⟩, .slice (some ⟨w9.heap.size, 0, none⟩) 1 1, .string ⟨#[84, 106]⟩, .slice (some ⟨w10.heap.size, 0, none⟩) 1 1] 41))
              have AV := hid ((At.new w10 #[.int .i64 3, .int .i64 0, .string t, .slice none 0 0, .slice none 0 0] 38 rfl).alloc (.cells #[.string ⟨#[84, 106]⟩, .slice (some ⟨w9.heap.size, 0, none⟩) 1 1, .string ⟨#[84, 106]⟩, .slice (some ⟨w10.heap.size, 0, none⟩) 1 1] 41))
              have AL := hid (At.new (w10.alloc (.cells #[.int .i64 3, .int .i64 0, .string t, .slice none 0 0, .slice none 0 0] 38)) #[.string ⟨#[84, 106]⟩, .slice (some ⟨w9.heap.size, 0, none⟩) 1 1, .string ⟨#[84, 106]⟩, .slice (some ⟨w10.heap.size, 0, none⟩) 1 1] 41 (b := w10.heap.size + 1) (by simp))
              have b : Below w10.heap.size w10 ((w10.alloc (.cells #[.int .i64 3, .int .i64 0, .string t, .slice none 0 0, .slice none 0 0] 38)).alloc (.cells #[.string ⟨#[84, 106]⟩, .slice (some ⟨w9.heap.size, 0, none⟩) 1 1, .string ⟨#[84, 106]⟩, .slice (some ⟨w10.heap.size, 0, none⟩) 1 1] 41)) := by go_grown
              replace H := hid (H.out.later b)
              replace B := hid (chn0 B.out b)
              replace M := hid (kept_below M.out b)
              replace G1 := hid (G1.out.later b)
              clear b
              go_at_call 17
              refine (tail_head H.out [((nTj, [V0 3 0 s]), .slice (some ⟨w9.heap.size, 0, none⟩) 1 1), ((nTj, [V0 3 0 t]), .slice (some ⟨w10.heap.size, 0, none⟩) 1 1)] _ AL.out (by simp) (by simp [opsC, Value.oneCell'])).mono ?_
              rintro e q2 ⟨⟨vv, rfl, hown⟩, hb⟩
              replace AV := hid (AV.out.later hb)
              replace AS := hid (AS.out.later hb)
              replace H := hid (H.out.later hb)
              replace B := hid (chn0 B.out hb)
              replace M := hid (kept_below M.out hb)
              replace G1 := hid (G1.out.later hb)
              have HO := hid (ops_head H.out [((nTj, [V0 3 0 s]), .slice (some ⟨w9.heap.size, 0, none⟩) 1 1), ((nTj, [V0 3 0 t]), .slice (some ⟨w10.heap.size, 0, none⟩) 1 1)] hown (fun x hx => by
                  simp only [List.mem_cons, List.not_mem_nil, or_false] at hx
                  rcases hx with rfl | rfl
                  · exact ⟨by show nTj.size ≤ maxLen; unfold nTj maxLen; decide, rep_one AS.out (show s.size ≤ maxLen by have := HZ.out; unfold maxLen; omega)⟩
                  · exact ⟨by show nTj.size ≤ maxLen; unfold nTj maxLen; decide, rep_one AV.out (show t.size ≤ maxLen by have := HZ.out; unfold maxLen; omega)⟩) (by simp))
              obtain ⟨aO, cO, rfl, _⟩ := id HO.out
              clear hb hown
              go_wp2_with (go_at_call 10; fail)
              go_at_call 10
              have hpg : Calls _ _ _ _ fun e w' => PgA _ e w' (pageR (sgF F) (ffOne qF ⟨F.wide, .map i, F.miss, .map j, .slice al F.l.length cap⟩) (hd4 size char scale ++ sopB s t)) ∧ _ := one_page (w := w) _ _ HO.out (okA_app okA_hd (okA_sop HZ.out).2.1) B.out HF.out HT.out HSP.out M.out
              rw [RB.out] at hpg
              refine hpg.mono ?_
              rintro e p2 ⟨⟨_, tG, BB, rfl, _, hown⟩, hb⟩
              obtain ⟨al2, cp2, rfl, hgl⟩ := own_gl hown
              replace H := hid (H.out.later hb)
              replace B := hid (chn0 B.out hb)
              replace M := hid (kept_below M.out hb)
              replace G1 := hid (G1.out.later hb)
              have G2 := hid hgl
              clear hb hpg hown hgl HO
              clear AV
              clear AS
              clear AL
              go_wp2_with (go_at_call 16; fail)
              go_at_call 16
              refine (strV_says _ _).mono ?_
              rintro e w11 ⟨rfl, hb⟩
              replace H := hid (H.out.later hb)
              replace B := hid (chn0 B.out hb)
              replace M := hid (kept_below M.out hb)
              replace G1 := hid (G1.out.later hb)
              replace G2 := hid (G2.out.later hb)
              clear hb
              go_wp2_with (go_at_call 16; fail)
              go_at_call 16
              refine (strV_says _ _).mono ?_
              rintro e w12 ⟨rfl, hb⟩
              replace H := hid (H.out.later hb)
              replace B := hid (chn0 B.out hb)
              replace M := hid (kept_below M.out hb)
              replace G1 := hid (G1.out.later hb)
              replace G2 := hid (G2.out.later hb)
              clear hb
              go_wp2_with (go_at_call 17; fail)
              have AS := hid (((At.new w12 #[.int .i64 3, .int .i64 0, .string s, .slice none 0 0, .slice none 0 0, .int .i64 3, .int .i64 0, .string t, .slice none 0 0, .slice none 0 0] 38 rfl).alloc (.cells #[.int .i64 5, .int .i64 0, .string ⟨#[]⟩, .slice (some ⟨w12.heap.size, 0, none⟩) 2 2, .slice none 0 0] 38)).alloc (.cells #[.string ⟨#[84, 74]⟩, .slice (some ⟨w12.heap.size + 1, 0, none⟩) 1 1] 41))
              have AV := hid ((At.new (w12.alloc (.cells #[.int .i64 3, .int .i64 0, .string s, .slice none 0 0, .slice none 0 0, .int .i64 3, .int .i64 0, .string t, .slice none 0 0, .slice none 0 0] 38)) #[.int .i64 5, .int .i64 0, .string ⟨#[]⟩, .slice (some ⟨w12.heap.size, 0, none⟩) 2 2, .slice none 0 0] 38 (b := w12.heap.size + 1) (by simp)).alloc (.cells #[.string ⟨#[84, 74]⟩, .slice (some ⟨w12.heap.size + 1, 0, none⟩) 1 1] 41))
              have AL := hid (At.new ((w12.alloc (.cells #[.int .i64 3, .int .i64 0, .string s, .slice none 0 0, .slice none 0 0, .int .i64 3, .int .i64 0, .string t, .slice none 0 0, .slice none 0 0] 38)).alloc (.cells #[.int .i64 5, .int .i64 0, .string ⟨#[]⟩, .slice (some ⟨w12.heap.size, 0, none⟩) 2 2, .slice none 0 0] 38)) #[.string ⟨#[84, 74]⟩, .slice (some ⟨w12.heap.size + 1, 0, none⟩) 1 1] 41 (b := w12.heap.size + 1 + 1) (by simp))
              have b : Below w12.heap.size w12 (((w12.alloc (.cells #[.int .i64 3, .int .i64 0, .string s, .slice none 0 0, .slice none 0 0, .int .i64 3, .int .i64 0, .string t, .slice none 0 0, .slice none 0 0] 38)).alloc (.cells #[.int .i64 5, .int .i64 0, .string ⟨#[]⟩, .slice (some ⟨w12.heap.size, 0, none⟩) 2 2, .slice none 0 0] 38)).alloc (.cells #[.string ⟨#[84, 74]⟩, .slice (some ⟨w12.heap.size + 1, 0, none⟩) 1 1] 41)) := by go_grown
              replace H := hid (H.out.later b)
              replace B := hid (chn0 B.out b)
              replace M := hid (kept_below M.out b)
              replace G1 := hid (G1.out.later b)
              replace G2 := hid (G2.out.later b)
              clear b
              go_at_call 17
              refine (tail_head H.out [((nTJ, [⟨5, 0, eB, [V0 3 0 s, V0 3 0 t], []⟩]), .slice (some ⟨w12.heap.size + 1, 0, none⟩) 1 1)] _ AL.out (by simp) (by simp [opsC, Value.oneCell'])).mono ?_
              rintro e q3 ⟨⟨vv, rfl, hown⟩, hb⟩
              replace AV := hid (AV.out.later hb)
              replace AS := hid (AS.out.later hb)
              replace H := hid (H.out.later hb)
              replace B := hid (chn0 B.out hb)
              replace M := hid (kept_below M.out hb)
              replace G1 := hid (G1.out.later hb)
              replace G2 := hid (G2.out.later hb)
              have HO := hid (ops_head H.out [((nTJ, [⟨5, 0, eB, [V0 3 0 s, V0 3 0 t], []⟩]), .slice (some ⟨w12.heap.size + 1, 0, none⟩) 1 1)] hown (fun x hx => by simp only [List.mem_cons, List.not_mem_nil, or_false] at hx; subst hx; exact ⟨by show nTJ.size ≤ maxLen; unfold nTJ maxLen; decide, rep_two AS.out AV.out (show s.size ≤ maxLen by have := HZ.out; unfold maxLen; omega) (show t.size ≤ maxLen by have := HZ.out; unfold maxLen; omega)⟩) (by simp))
              obtain ⟨aO, cO, rfl, _⟩ := id HO.out
              clear hb hown
              go_wp2_with (go_at_call 10; fail)
              go_at_call 10
              have hpg : Calls _ _ _ _ fun e w' => PgA _ e w' (pageR (sgF F) (ffOne qF ⟨F.wide, .map i, F.miss, .map j, .slice al F.l.length cap⟩) (hd4 size char scale ++ sopC s t)) ∧ _ := one_page (w := w) _ _ HO.out (okA_app okA_hd (okA_sop HZ.out).2.2) B.out HF.out HT.out HSP.out M.out
              rw [RC.out] at hpg
              refine hpg.mono ?_
              rintro e p3 ⟨⟨_, tG, BB, rfl, _, hown⟩, hb⟩
              obtain ⟨al3, cp3, rfl, hgl⟩ := own_gl hown
              replace H := hid (H.out.later hb)
              replace B := hid (chn0 B.out hb)
              replace M := hid (kept_below M.out hb)
              replace G1 := hid (G1.out.later hb)
              replace G2 := hid (G2.out.later hb)
              have G3 := hid hgl
              clear hb hpg hown hgl HO
              clear AV
              clear AS
              clear AL
              obtain ⟨hlen⟩ : Nonempty (pp.out.length ≤ 100000) := ⟨by have := HLN.out; omega⟩
              go_wp2_with (first | (go_at_call 12; refine (numb_nil _).mono ?_; rintro e ww ⟨rfl, rfl⟩) | (go_at_call 14; fail))
              go_at_call 14
              refine (same_glyphs pp.out _ _ _ _ _ hlen G1.out G2.out).mono ?_
              rintro e y1 ⟨rfl, hb⟩
              replace H := hid (H.out.later hb)
              replace B := hid (chn0 B.out hb)
              replace M := hid (kept_below M.out hb)
              replace G1 := hid (G1.out.later hb)
              replace G2 := hid (G2.out.later hb)
              replace G3 := hid (G3.out.later hb)
              clear hb
              go_wp2_with (first | (go_at_call 12; refine (numb_nil _).mono ?_; rintro e ww ⟨rfl, rfl⟩) | (go_at_call 14; fail))
              go_at_call 14
              refine (same_glyphs pp.out _ _ _ _ _ hlen G1.out G3.out).mono ?_
              rintro e y2 ⟨rfl, hb⟩
              replace H := hid (H.out.later hb)
              replace B := hid (chn0 B.out hb)
              replace M := hid (kept_below M.out hb)
              replace G1 := hid (G1.out.later hb)
              replace G2 := hid (G2.out.later hb)
              replace G3 := hid (G3.out.later hb)
              clear hb
              go_wp2_with fail
              go_ret
              exact ⟨rfl, B.out⟩
            | error k =>
              have H := HH
              have B := B7
              have M := M7
              clear HH B7 M7
              go_at_call 16
              refine (strV_says _ _).mono ?_
              rintro e w8 ⟨rfl, hb⟩
              replace H := hid (H.out.later hb)
              replace B := hid (chn0 B.out hb)
              replace M := hid (kept_below M.out hb)
              clear hb
              go_wp2_with (go_at_call 17; fail)
              have AV := hid ((At.new w8 #[.int .i64 3, .int .i64 0, .string (s ++ t), .slice none 0 0, .slice none 0 0] 38 rfl).alloc (.cells #[.string ⟨#[84, 106]⟩, .slice (some ⟨w8.heap.size, 0, none⟩) 1 1] 41))
              have AL := hid (At.new (w8.alloc (.cells #[.int .i64 3, .int .i64 0, .string (s ++ t), .slice none 0 0, .slice none 0 0] 38)) #[.string ⟨#[84, 106]⟩, .slice (some ⟨w8.heap.size, 0, none⟩) 1 1] 41 (b := w8.heap.size + 1) (by simp))
              have b : Below w8.heap.size w8 ((w8.alloc (.cells #[.int .i64 3, .int .i64 0, .string (s ++ t), .slice none 0 0, .slice none 0 0] 38)).alloc (.cells #[.string ⟨#[84, 106]⟩, .slice (some ⟨w8.heap.size, 0, none⟩) 1 1] 41)) := by go_grown
              replace H := hid (H.out.later b)
              replace B := hid (chn0 B.out b)
              replace M := hid (kept_below M.out b)
              clear b
              go_at_call 17
              refine (tail_head H.out [((nTj, [V0 3 0 (s ++ t)]), .slice (some ⟨w8.heap.size, 0, none⟩) 1 1)] _ AL.out (by simp) (by simp [opsC, Value.oneCell'])).mono ?_
              rintro e q1 ⟨⟨vv, rfl, hown⟩, hb⟩
              replace AV := hid (AV.out.later hb)
              replace H := hid (H.out.later hb)
              replace B := hid (chn0 B.out hb)
              replace M := hid (kept_below M.out hb)
              have HO := hid (ops_head H.out [((nTj, [V0 3 0 (s ++ t)]), .slice (some ⟨w8.heap.size, 0, none⟩) 1 1)] hown (fun x hx => by simp only [List.mem_cons, List.not_mem_nil, or_false] at hx; subst hx; exact ⟨by show nTj.size ≤ maxLen; unfold nTj maxLen; decide, rep_one AV.out (show (s ++ t).size ≤ maxLen by have := HZ.out; unfold maxLen; omega)⟩) (by simp))
              obtain ⟨aO, cO, rfl, _⟩ := id HO.out
              clear hb hown
              go_wp2_with (go_at_call 10; fail)
              go_at_call 10
              have hpg : Calls _ _ _ _ fun e w' => PgA _ e w' (pageR (sgF F) (ffOne qF ⟨F.wide, .map i, F.miss, .map j, .slice al F.l.length cap⟩) (hd4 size char scale ++ sopA s t)) ∧ _ := one_page (w := w) _ _ HO.out (okA_app okA_hd (okA_sop HZ.out).1) B.out HF.out HT.out HSP.out M.out
              rw [RA.out] at hpg
              refine hpg.mono ?_
              rintro e p1 ⟨he, hb⟩
              cases (show e = .returned (.tuple #[.slice none 0 0, .iface 68 (.int .i64 k)]) from he)
              replace H := hid (H.out.later hb)
              replace B := hid (chn0 B.out hb)
              replace M := hid (kept_below M.out hb)
              clear hb hpg he HO
              clear AV
              clear AL
              go_wp2_with (go_at_call 16; fail)
              go_at_call 16
              refine (strV_says _ _).mono ?_
              rintro e w9 ⟨rfl, hb⟩
              replace H := hid (H.out.later hb)
              replace B := hid (chn0 B.out hb)
              replace M := hid (kept_below M.out hb)
              clear hb
              have AS := hid (At.new w9 #[.int .i64 3, .int .i64 0, .string s, .slice none 0 0, .slice none 0 0] 38 rfl)
              have b : Below w9.heap.size w9 (w9.alloc (.cells #[.int .i64 3, .int .i64 0, .string s, .slice none 0 0, .slice none 0 0] 38)) := by go_grown
              replace H := hid (H.out.later b)
              replace B := hid (chn0 B.out b)
              replace M := hid (kept_below M.out b)
              clear b
              go_wp2_with (go_at_call 16; fail)
              go_at_call 16
              refine (strV_says _ _).mono ?_
              rintro e w10 ⟨rfl, hb⟩
              replace H := hid (H.out.later hb)
              replace B := hid (chn0 B.out hb)
              replace M := hid (kept_below M.out hb)
              replace AS := hid (AS.out.later hb)
              clear hb
              go_wp2_with (go_at_call 17; fail)
              replace AS := hid ((AS.out.alloc (.cells #[.int .i64 3, .int .i64 0, .string t, .slice none 0 0, .slice none 0 0] 38)).alloc (.cells #[.string ⟨#[84, 106]⟩, .slice (some ⟨w9.heap.size, 0, none⟩) 1 1, .string ⟨#[84, 106]⟩, .slice (some ⟨w10.heap.size, 0, none⟩) 1 1] 41))
              have AV := hid ((At.new w10 #[.int .i64 3, .int .i64 0, .string t, .slice none 0 0, .slice none 0 0] 38 rfl).alloc (.cells #[.string ⟨#[84, 106]⟩, .slice (some ⟨w9.heap.size, 0, none⟩) 1 1, .string ⟨#[84, 106]⟩, .slice (some ⟨w10.heap.size, 0, none⟩) 1 1] 41))
              have AL := hid (At.new (w10.alloc (.cells #[.int .i64 3, .int .i64 0, .string t, .slice none 0 0, .slice none 0 0] 38)) #[.string ⟨#[84, 106]⟩, .slice (some ⟨w9.heap.size, 0, none⟩) 1 1, .string ⟨#[84, 106]⟩, .slice (some ⟨w10.heap.size, 0, none⟩) 1 1] 41 (b := w10.heap.size + 1) (by simp))
              have b : Below w10.heap.size w10 ((w10.alloc (.cells #[.int .i64 3, .int .i64 0, .string t, .slice none 0 0, .slice none 0 0] 38)).alloc (.cells #[.string ⟨#[84, 106]⟩, .slice (some ⟨w9.heap.size, 0, none⟩) 1 1, .string ⟨#[84, 106]⟩, .slice (some ⟨w10.heap.size, 0, none⟩) 1 1] 41)) := by go_grown
              replace H := hid (H.out.later b)
              replace B := hid (chn0 B.out b)
              replace M := hid (kept_below M.out b)
              clear b
              go_at_call 17
              refine (tail_head H.out [((nTj, [V0 3 0 s]), .slice (some ⟨w9.heap.size, 0, none⟩) 1 1), ((nTj, [V0 3 0 t]), .slice (some ⟨w10.heap.size, 0, none⟩) 1 1)] _ AL.out (by simp) (by simp [opsC, Value.oneCell'])).mono ?_
              rintro e q2 ⟨⟨vv, rfl, hown⟩, hb⟩
              replace AV := hid (AV.out.later hb)
              replace AS := hid (AS.out.later hb)
              replace H := hid (H.out.later hb)
              replace B := hid (chn0 B.out hb)
              replace M := hid (kept_below M.out hb)
              have HO := hid (ops_head H.out [((nTj, [V0 3 0 s]), .slice (some ⟨w9.heap.size, 0, none⟩) 1 1), ((nTj, [V0 3 0 t]), .slice (some ⟨w10.heap.size, 0, none⟩) 1 1)] hown (fun x hx => by
                  simp only [List.mem_cons, List.not_mem_nil, or_false] at hx
                  rcases hx with rfl | rfl
                  · exact ⟨by show nTj.size ≤ maxLen; unfold nTj maxLen; decide, rep_one AS.out (show s.size ≤ maxLen by have := HZ.out; unfold maxLen; omega)⟩
                  · exact ⟨by show nTj.size ≤ maxLen; unfold nTj maxLen; decide, rep_one AV.out (show t.size ≤ maxLen by have := HZ.out; unfold maxLen; omega)⟩) (by simp))
              obtain ⟨aO, cO, rfl, _⟩ := id HO.out
              clear hb hown
              go_wp2_with (go_at_call 10; fail)
              go_at_call 10
              have hpg : Calls _ _ _ _ fun e w' => PgA _ e w' (pageR (sgF F) (ffOne qF ⟨F.wide, .map i, F.miss, .map j, .slice al F.l.length cap⟩) (hd4 size char scale ++ sopB s t)) ∧ _ := one_page (w := w) _ _ HO.out (okA_app okA_hd (okA_sop HZ.out).2.1) B.out HF.out HT.out HSP.out M.out
              rw [RB.out] at hpg
              refine hpg.mono ?_
              rintro e p2 ⟨he, hb⟩
              cases (show e = .returned (.tuple #[.slice none 0 0, .iface 68 (.int .i64 k)]) from he)
              replace H := hid (H.out.later hb)
              replace B := hid (chn0 B.out hb)
              replace M := hid (kept_below M.out hb)
              clear hb hpg he HO
              clear AV
              clear AS
              clear AL
              go_wp2_with (go_at_call 16; fail)
              go_at_call 16
              refine (strV_says _ _).mono ?_
              rintro e w11 ⟨rfl, hb⟩
              replace H := hid (H.out.later hb)
              replace B := hid (chn0 B.out hb)
              replace M := hid (kept_below M.out hb)
              clear hb
              go_wp2_with (go_at_call 16; fail)
              go_at_call 16
              refine (strV_says _ _).mono ?_
              rintro e w12 ⟨rfl, hb⟩
              replace H := hid (H.out.later hb)
              replace B := hid (chn0 B.out hb)
              replace M := hid (kept_below M.out hb)
              clear hb
              go_wp2_with (go_at_call 17; fail)
              have AS := hid (((At.new w12 #[.int .i64 3, .int .i64 0, .string s, .slice none 0 0, .slice none 0 0, .int .i64 3, .int .i64 0, .string t, .slice none 0 0, .slice none 0 0] 38 rfl).alloc (.cells #[.int .i64 5, .int .i64 0, .string ⟨#[]⟩, .slice (some ⟨w12.heap.size, 0, none⟩) 2 2, .slice none 0 0] 38)).alloc (.cells #[.string ⟨#[84, 74]⟩, .slice (some ⟨w12.heap.size + 1, 0, none⟩) 1 1] 41))
              have AV := hid ((At.new (w12.alloc (.cells #[.int .i64 3, .int .i64 0, .string s, .slice none 0 0, .slice none 0 0, .int .i64 3, .int .i64 0, .string t, .slice none 0 0, .slice none 0 0] 38)) #[.int .i64 5, .int .i64 0, .string ⟨#[]⟩, .slice (some ⟨w12.heap.size, 0, none⟩) 2 2, .slice none 0 0] 38 (b := w12.heap.size + 1) (by simp)).alloc (.cells #[.string ⟨#[84, 74]⟩, .slice (some ⟨w12.heap.size + 1, 0, none⟩) 1 1] 41))
              have AL := hid (At.new ((w12.alloc (.cells #[.int .i64 3, .int .i64 0, .string s, .slice none 0 0, .slice none 0 0, .int .i64 3, .int .i64 0, .string t, .slice none 0 0, .slice none 0 0] 38)).alloc (.cells #[.int .i64 5, .int .i64 0, .string ⟨#[]⟩, .slice (some ⟨w12.heap.size, 0, none⟩) 2 2, .slice none 0 0] 38)) #[.string ⟨#[84, 74]⟩, .slice (some ⟨w12.heap.size + 1, 0, none⟩) 1 1] 41 (b := w12.heap.size + 1 + 1) (by simp))
              have b : Below w12.heap.size w12 (((w12.alloc (.cells #[.int .i64 3, .int .i64 0, .string s, .slice none 0 0, .slice none 0 0, .int .i64 3, .int .i64 0, .string t, .slice none 0 0, .slice none 0 0] 38)).alloc (.cells #[.int .i64 5, .int .i64 0, .string ⟨#[]⟩, .slice (some ⟨w12.heap.size, 0, none⟩) 2 2, .slice none 0 0] 38)).alloc (.cells #[.string ⟨#[84, 74]⟩, .slice (some ⟨w12.heap.size + 1, 0, none⟩) 1 1] 41)) := by go_grown
              replace H := hid (H.out.later b)
              replace B := hid (chn0 B.out b)
              replace M := hid (kept_below M.out b)
              clear b
              go_at_call 17
              refine (tail_head H.out [((nTJ, [⟨5, 0, eB, [V0 3 0 s, V0 3 0 t], []⟩]), .slice (some ⟨w12.heap.size + 1, 0, none⟩) 1 1)] _ AL.out (by simp) (by simp [opsC, Value.oneCell'])).mono ?_
              rintro e q3 ⟨⟨vv, rfl, hown⟩, hb⟩
              replace AV := hid (AV.out.later hb)
              replace AS := hid (AS.out.later hb)
              replace H := hid (H.out.later hb)
              replace B := hid (chn0 B.out hb)
              replace M := hid (kept_below M.out hb)
              have HO := hid (ops_head H.out [((nTJ, [⟨5, 0, eB, [V0 3 0 s, V0 3 0 t], []⟩]), .slice (some ⟨w12.heap.size + 1, 0, none⟩) 1 1)] hown (fun x hx => by simp only [List.mem_cons, List.not_mem_nil, or_false] at hx; subst hx; exact ⟨by show nTJ.size ≤ maxLen; unfold nTJ maxLen; decide, rep_two AS.out AV.out (show s.size ≤ maxLen by have := HZ.out; unfold maxLen; omega) (show t.size ≤ maxLen by have := HZ.out; unfold maxLen; omega)⟩) (by simp))
              obtain ⟨aO, cO, rfl, _⟩ := id HO.out
              clear hb hown
              go_wp2_with (go_at_call 10; fail)
              go_at_call 10
              have hpg : Calls _ _ _ _ fun e w' => PgA _ e w' (pageR (sgF F) (ffOne qF ⟨F.wide, .map i, F.miss, .map j, .slice al F.l.length cap⟩) (hd4 size char scale ++ sopC s t)) ∧ _ := one_page (w := w) _ _ HO.out (okA_app okA_hd (okA_sop HZ.out).2.2) B.out HF.out HT.out HSP.out M.out
              rw [RC.out] at hpg
              refine hpg.mono ?_
              rintro e p3 ⟨he, hb⟩
              cases (show e = .returned (.tuple #[.slice none 0 0, .iface 68 (.int .i64 k)]) from he)
              replace H := hid (H.out.later hb)
              replace B := hid (chn0 B.out hb)
              replace M := hid (kept_below M.out hb)
              clear hb hpg he HO
              clear AV
              clear AS
              clear AL
              go_wp2_with (first | (go_at_call 12; refine (numb_err _ _).mono ?_; rintro e ww ⟨rfl, rfl⟩) | (go_at_call 14; fail))
              go_at_call 14
              refine (same_glyphs [] none none 0 0 _ (by simp) (fun i x hx => by simp at hx) (fun i x hx => by simp at hx)).mono ?_
              rintro e y1 ⟨rfl, hb⟩
              replace H := hid (H.out.later hb)
              replace B := hid (chn0 B.out hb)
              replace M := hid (kept_below M.out hb)
              clear hb
              go_wp2_with (first | (go_at_call 12; refine (numb_err _ _).mono ?_; rintro e ww ⟨rfl, rfl⟩) | (go_at_call 14; fail))
              go_at_call 14
              refine (same_glyphs [] none none 0 0 _ (by simp) (fun i x hx => by simp at hx) (fun i x hx => by simp at hx)).mono ?_
              rintro e y2 ⟨rfl, hb⟩
              replace H := hid (H.out.later hb)
              replace B := hid (chn0 B.out hb)
              replace M := hid (kept_below M.out hb)
              clear hb
              go_wp2_with fail
              go_ret
              exact ⟨rfl, B.out⟩
        · have hw : F.wide = true := by
            cases h : F.wide with
            | false => exact absurd (.inl h) hev
            | true => rfl
          rw [hw] at x0
          by_cases h1 : s.size % 2 = 1
          · have e1 : ((s.size : Int) % 2 == 1) = true := by simp; omega
            have f1 : (s.size : Int) % 2 = 1 := by omega
            clear hev hw h1
            go_wp2_with fail
            go_ret
            exact ⟨rfl, B3.out⟩
          · have h2 : t.size % 2 = 1 := by
              have : ¬ (s.size % 2 = 0 ∧ t.size % 2 = 0) := fun q => hev (.inr q)
              omega
            have e1 : ((s.size : Int) % 2 == 1) = false := by simp; omega
            have e2 : ((t.size : Int) % 2 == 1) = true := by simp; omega
            have f1 : ¬ (s.size : Int) % 2 = 1 := by omega
            have f2 : (t.size : Int) % 2 = 1 := by omega
            clear hev hw h1 h2
            go_wp2_with fail
            go_ret
            exact ⟨rfl, B3.out⟩
end Go.Proofs.YtobpidmlgldnmaaGreatDoor

/-
  The row's closed facts, each by itself.
-/
namespace Go.Proofs.YtobpidmlgldnmaaGreatDoor.TopSplit
open Go.ChangeShapes Go.WideShapes Go.ChangeAt Go.RowKit
set_option maxRecDepth 100000

set_option maxHeartbeats 40000000 in
theorem closed : joinedFacts Tryz.pinned.checked.prog 5 Tryz.f5 (Rows.OpenSpec.upto Rows.topSplitSpec).bare Rows.topSplitUptoRow = true := by
  unfold joinedFacts
  repeat' (with_reducible refine Bool.and_eq_true_iff.2 ⟨?_, ?_⟩)
  all_goals (as_aux_lemma => kernel_rfl)
end Go.Proofs.YtobpidmlgldnmaaGreatDoor.TopSplit
