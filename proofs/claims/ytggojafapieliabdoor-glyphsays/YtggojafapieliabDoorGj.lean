/-
  Signs of strings: one contract; lists of them that are the same.
-/
import Derived.Test.YtggojafapieliabDoorGf
import Derived.Deep.AppendSrc
namespace Go.Proofs.YtggojafapieliabDoor
open Go.RowKit
set_option maxRecDepth 100000
attribute [local go_sem ↓] Go.wp_at_zero Go.wp_at_succ

/-- What the signs of a string are as an answer. -/
def SgA (w' : World) (B : Nat) (F : Ft) (L : List UInt8) (v er : Value) : Prop :=
  (F.wide = true ∧ (∃ m, L.length = 2 * m + 1) ∧ v = .slice none 0 0 ∧ er = errV 4) ∨ ((F.wide = false ∨ ∃ m, L.length = 2 * m) ∧ er = .nilIface ∧ OwnG w' B v (sgL F L))
theorem signs_ft (F : Ft) (mw mn : Value) (al : Option Addr) (cap : Nat) (s : ByteArray) (w : World) (hs : s.size ≤ 1000) (hF : FtAt w F mw mn al) (hT : Tb w) (hf : spFault F.l F.wide = 0) :
    Calls Tryd.prog 19 #[ftV F mw mn al cap, .string s] w fun e w' => ∃ v er, e = .returned (.tuple #[v, er]) ∧ SgA w' w.heap.size F s.data.toList v er ∧ Below w.heap.size w w' := by
  have hl : s.data.toList.length = s.size := by simp
  cases hw : F.wide with
  | false =>
    refine (signs_narrow F mw mn al cap s w hw hs hF hT hf).mono ?_
    rintro e w' ⟨v, rfl, ho, hb⟩
    exact ⟨v, _, rfl, .inr ⟨.inl hw, rfl, ho⟩, hb⟩
  | true =>
    by_cases h2 : s.size % 2 = 0
    · refine (signs_wide F mw mn al cap s w hw hs ⟨s.size / 2, by omega⟩ hF hT hf).mono ?_
      rintro e w' ⟨v, rfl, ho, hb⟩
      exact ⟨v, _, rfl, .inr ⟨.inr ⟨s.size / 2, by omega⟩, rfl, ho⟩, hb⟩
    · refine (signs_odd F mw mn al cap s w hw hs ⟨s.size / 2, by omega⟩).mono ?_
      rintro e w' ⟨rfl, hb⟩
      exact ⟨_, _, rfl, .inl ⟨hw, ⟨s.size / 2, by omega⟩, rfl, rfl⟩, hb⟩
/-- The cells of signs. -/
def SgAt (w : World) (al : Option Addr) (l : List Sp) : Prop :=
  ∀ i x, l[i]? = some x → ∃ b off, al = some ⟨b, off, none⟩ ∧ b < w.heap.size ∧ w.cell? ⟨b, off + i * 3, none⟩ = some (.int .i64 x.f) ∧ w.cell? ⟨b, off + i * 3 + 1, none⟩ = some (.int .i64 x.t) ∧ w.cell? ⟨b, off + i * 3 + 2, none⟩ = some (.string x.s)
theorem SgAt.later {w w' : World} {al : Option Addr} {l : List Sp} (h : SgAt w al l) (hB : Below w.heap.size w w') : SgAt w' al l := fun i x hx => by
  obtain ⟨b, off, e, hb, c0, c1, c2⟩ := h i x hx
  exact ⟨b, off, e, Nat.lt_of_lt_of_le hb hB.size, (hB.cell (p := ⟨b, off + i * 3, none⟩) hb).trans c0, (hB.cell (p := ⟨b, off + i * 3 + 1, none⟩) hb).trans c1, (hB.cell (p := ⟨b, off + i * 3 + 2, none⟩) hb).trans c2⟩
theorem clG_at : ∀ (l : List Sp) (i : Nat) (x : Sp), l[i]? = some x → (clG l)[i * 3]? = some (.int .i64 x.f) ∧ (clG l)[i * 3 + 1]? = some (.int .i64 x.t) ∧ (clG l)[i * 3 + 2]? = some (.string x.s)
  | [], i, x, h => by simp at h
  | y :: l, 0, x, h => by
    simp at h; subst h
    exact ⟨rfl, rfl, rfl⟩
  | y :: l, i + 1, x, h => by
    have q := clG_at l i x (by simpa using h)
    have e : clG (y :: l) = .int .i64 y.f :: .int .i64 y.t :: .string y.s :: clG l := rfl
    rw [e, show (i + 1) * 3 = i * 3 + 1 + 1 + 1 by omega, show i * 3 + 1 + 1 + 1 + 1 = (i * 3 + 1) + 1 + 1 + 1 by omega, show i * 3 + 1 + 1 + 1 + 2 = (i * 3 + 2) + 1 + 1 + 1 by omega]
    simp only [List.getElem?_cons_succ]
    exact q
theorem OwnG.at {w : World} {B : Nat} {v : Value} {l : List Sp} (h : OwnG w B v l) : ∃ al c, v = .slice al l.length c ∧ SgAt w al l := by
  have hc := fun g => World.ownsRow.cells h (g := g)
  obtain ⟨_, ⟨rfl, h2⟩ | ⟨g, cap, cur, rfl, h2, h3, h4, _⟩⟩ := h
  · obtain rfl := List.eq_nil_of_length_eq_zero h2
    exact ⟨none, 0, rfl, fun i x hx => by simp at hx⟩
  · refine ⟨_, cap, rfl, fun i x hx => ?_⟩
    obtain ⟨q0, q1, q2⟩ := clG_at l i x hx
    have k0 := hc g rfl _ _ q0
    have k1 := hc g rfl _ _ q1
    have k2 := hc g rfl _ _ q2
    rw [Lib.add_plain, Nat.zero_add] at k0 k1 k2
    exact ⟨g, 0, rfl, (Array.getElem?_eq_some_iff.1 h3).1, by rw [Nat.zero_add]; exact k0, by rw [Nat.zero_add]; exact k1, by rw [Nat.zero_add]; exact k2⟩
set_option maxHeartbeats 1000000 in
theorem same_signs (l : List Sp) (a1 a2 : Option Addr) (c1 c2 : Nat) (w : World) (hl : l.length ≤ 100000) (h1 : SgAt w a1 l) (h2 : SgAt w a2 l) :
    Calls Tryd.prog 21 #[.slice a1 l.length c1, .slice a2 l.length c2] w fun e w' => e = .returned (.bool true) ∧ Below w.heap.size w w' := by
  have H1 := hid h1
  have H2 := hid h2
  clear h1 h2
  go_enter Tryd.func21, Tryd.ntmps21
  go_wp2_with fail
  go_loopw [5] (fun i wr => ∃ p : Nat, i = .int .i64 p ∧ p ≤ l.length ∧ Below w.heap.size w wr) (fun i _ => l.length - (intOf i).toNat)
  case atStart => exact ⟨0, rfl, Nat.zero_le _, Below.refl _ _⟩
  case round =>
    obtain ⟨p, rfl, hp, hB⟩ := hrel
    by_cases hpl : p < l.length
    · have hpl' : (p : Int) < l.length := by omega
      obtain ⟨b, off, rfl, hbl, g0, g1, g2⟩ := (H1.out.later hB) p l[p] (List.getElem?_eq_getElem hpl)
      obtain ⟨b', off', rfl, hbl', k0, k1, k2⟩ := (H2.out.later hB) p l[p] (List.getElem?_eq_getElem hpl)
      generalize l[p] = x at *
      go_wp2_with fail
      go_region
      all_goals
        go_wp2_with fail
        go_roundw
        case rel => exact ⟨p + 1, by go_num, by omega, by first | exact hB | exact hB.drew⟩
        case measure => simp [intOf]; omega
    · have hpl' : ¬ (p : Int) < l.length := by omega
      go_wp2_with fail
      go_ret
      exact ⟨rfl, hB⟩
theorem clG_len (l : List Sp) : (clG l).length = l.length * 3 := by
  unfold clG
  induction l with
  | nil => rfl
  | cons a l ih => rw [List.flatMap_cons, List.length_append, ih]; simp; omega
theorem clG_app (l k : List Sp) : clG (l ++ k) = clG l ++ clG k := by unfold clG; simp
theorem clG_one (l : List Sp) : ∀ u ∈ clG l, u.oneCell' = true := by
  intro u hu
  unfold clG at hu
  obtain ⟨y, _, hy⟩ := List.mem_flatMap.1 hu
  simp only [List.mem_cons, List.not_mem_nil, or_false] at hy
  rcases hy with rfl | rfl | rfl <;> rfl
/-- Signs behind signs. -/
theorem run_appG {W : World} {B B2 : Nat} {v x : Value} {l k : List Sp} (hown : OwnG W B v l) (hx : OwnG W B2 x k) (hlim : l.length + k.length ≤ 1000000) (hB : B ≤ W.heap.size) :
    ∃ v' w', (Builtin.append_ #[47, 47] 47 #[v, x]).run Tryd.prog W = .ok v' w' ∧ OwnG w' B v' (l ++ k) ∧ W.grownBy w' v.ownBlock := by
  obtain ⟨iF, hiF, hf0, hf1, hf2⟩ := info_parts infoSg
  have hcx := fun g => World.ownsRow.cells hx (g := g)
  obtain ⟨_, ⟨rfl, h2⟩ | ⟨g, cap, cur, rfl, h2, h3, h4, _⟩⟩ := hx
  · obtain rfl := List.eq_nil_of_length_eq_zero h2
    rw [List.append_nil]
    refine ⟨v, W, ?_, hown, ⟨rfl, rfl, rfl, Nat.le_refl _, fun _ _ _ => rfl⟩⟩
    obtain ⟨_, ⟨rfl, h2⟩ | ⟨g, cap, cur, rfl, h2, h3, h4, _⟩⟩ := hown
    · have hfc := run_firstCells_none (P := Tryd.prog) W iF.size 0 0 0
      simp [Builtin.append_, run_underlying Tryd.underlying47, sizeOf, typeInfo, hiF, Builtin.lenOf, hfc]
    · have q := run_append_room_src (P := Tryd.prog) (w := W) 47 47 47 55 iF Tryd.underlying47 hiF g 0 l.length cap (.slice none 0 0) 0 [] (Src.ofNil W Tryd.underlying47 0) (by omega) (fun j hj => by simp at hj) (fun j hj => by simp at hj)
      rw [q]
      simp [World.setCells]
  · obtain ⟨v', w', hr, q2, q3, _, _⟩ := run_append_own_at (P := Tryd.prog) W B 47 47 55 iF _ 3 32 Tryd.underlying47 hiF hf0 hf1 hf2 rfl (by decide) v l.length (clG l) hown ⟨g, 0, none⟩ k.length cap (clG k) (clG_len k) (hcx g rfl) (clG_one k) (by unfold maxLen; omega) (by omega) hB
    refine ⟨v', w', hr, ?_, q3⟩
    unfold OwnG
    rw [clG_app, List.length_append]
    exact q2
end Go.Proofs.YtggojafapieliabDoor
