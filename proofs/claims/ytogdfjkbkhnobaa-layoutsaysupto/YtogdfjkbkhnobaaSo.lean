/-
  Words of a page (layout.Words).
-/
import Derived.Test.YtogdfjkbkhnobaaSn
namespace Go.Proofs.Ytogdfjkbkhnobaa
open Go.Shelf Go.RowKit Go.Lib Go.Sort
set_option maxRecDepth 1000000

/-- A row in memory, in blocks of a kind. -/
def RowS {α : Type} (S : Nat → Prop) (P : World → Value → α → Prop) (w : World) (v : Value) (l : List α) : Prop := ∃ a c, v = .slice a l.length c ∧ ∀ (k : Nat) x, l[k]? = some x → ∃ b off u, a = some ⟨b, off, none⟩ ∧ S b ∧ b < w.heap.size ∧ w.cell? ⟨b, off + k, none⟩ = some u ∧ P w u x
def Is1 (S : Nat → Prop) (w : World) (v : Value) (zs : List Int) : Prop := RowS S (fun _ u z => u = .int .i64 z) w v zs
def Is2 (S : Nat → Prop) (w : World) (v : Value) (R : List (List Int)) : Prop := RowS S (Is1 S) w v R
def Is3 (S : Nat → Prop) (w : World) (v : Value) (W : List (List (List Int))) : Prop := RowS S (Is2 S) w v W
/-- Blocks of a kind are as they were. -/
def AgreeS (S : Nat → Prop) (w w' : World) : Prop := w.heap.size ≤ w'.heap.size ∧ ∀ b, S b → b < w.heap.size → w'.heap[b]? = w.heap[b]?
theorem AgreeS.cell {S : Nat → Prop} {w w' : World} (h : AgreeS S w w') {b : Nat} (hs : S b) (hb : b < w.heap.size) (o : Nat) : w'.cell? ⟨b, o, none⟩ = w.cell? ⟨b, o, none⟩ := by
  unfold World.cell?
  simp only [h.2 b hs hb]
theorem AgreeS.of {S : Nat → Prop} {w w' : World} (h : Below w.heap.size w w') : AgreeS S w w' := ⟨h.size, fun b _ hb => h.block b hb⟩
theorem AgreeS.grown {S : Nat → Prop} {w w' : World} {row : Option Nat} (h : w.grownBy w' row) (hS : ∀ b, S b → some b ≠ row) : AgreeS S w w' := ⟨h.size, fun b hs hb => h.block b hb (hS b hs)⟩
theorem RowS.kept {α : Type} {S : Nat → Prop} {P : World → Value → α → Prop} {w w' : World} {v : Value} {l : List α} (h : RowS S P w v l) (hk : AgreeS S w w') (hP : ∀ u x, P w u x → P w' u x) : RowS S P w' v l := by
  obtain ⟨a, c, e, h⟩ := h
  refine ⟨a, c, e, fun k x hx => ?_⟩
  obtain ⟨b, off, u, h1, h2, h3, h4, h5⟩ := h k x hx
  exact ⟨b, off, u, h1, h2, Nat.lt_of_lt_of_le h3 hk.1, (hk.cell h2 h3 _).trans h4, hP _ _ h5⟩
theorem RowS.imp {α : Type} {S S' : Nat → Prop} {P P' : World → Value → α → Prop} {w : World} {v : Value} {l : List α} (h : RowS S P w v l) (hS : ∀ b, b < w.heap.size → S b → S' b) (hP : ∀ u x, P w u x → P' w u x) : RowS S' P' w v l := by
  obtain ⟨a, c, e, h⟩ := h
  refine ⟨a, c, e, fun k x hx => ?_⟩
  obtain ⟨b, off, u, h1, h2, h3, h4, h5⟩ := h k x hx
  exact ⟨b, off, u, h1, hS _ h3 h2, h3, h4, hP _ _ h5⟩
theorem Is1.kept {S : Nat → Prop} {w w' : World} {v : Value} {l : List Int} (h : Is1 S w v l) (hk : AgreeS S w w') : Is1 S w' v l := RowS.kept h hk fun _ _ q => q
theorem Is2.kept {S : Nat → Prop} {w w' : World} {v : Value} {l : List (List Int)} (h : Is2 S w v l) (hk : AgreeS S w w') : Is2 S w' v l := RowS.kept h hk fun _ _ q => Is1.kept q hk
theorem Is3.kept {S : Nat → Prop} {w w' : World} {v : Value} {l : List (List (List Int))} (h : Is3 S w v l) (hk : AgreeS S w w') : Is3 S w' v l := RowS.kept h hk fun _ _ q => Is2.kept q hk
theorem Is1.imp {S S' : Nat → Prop} {w : World} {v : Value} {l : List Int} (h : Is1 S w v l) (hS : ∀ b, b < w.heap.size → S b → S' b) : Is1 S' w v l := RowS.imp h hS fun _ _ q => q
theorem Is2.imp {S S' : Nat → Prop} {w : World} {v : Value} {l : List (List Int)} (h : Is2 S w v l) (hS : ∀ b, b < w.heap.size → S b → S' b) : Is2 S' w v l := RowS.imp h hS fun _ _ q => Is1.imp q hS
theorem Is3.imp {S S' : Nat → Prop} {w : World} {v : Value} {l : List (List (List Int))} (h : Is3 S w v l) (hS : ∀ b, b < w.heap.size → S b → S' b) : Is3 S' w v l := RowS.imp h hS fun _ _ q => Is2.imp q hS
theorem Is1.inAt {S : Nat → Prop} {w : World} {v : Value} {zs : List Int} (h : Is1 S w v zs) : ∃ a c, v = .slice a zs.length c ∧ InAt w a zs := by
  obtain ⟨a, c, e, h⟩ := h
  refine ⟨a, c, e, fun i z hz => ?_⟩
  obtain ⟨b, off, u, h1, _, h3, h4, h5⟩ := h i z hz
  subst h5
  exact ⟨b, off, h1, h3, h4⟩
/-- An owned row of one cell each. -/
theorem rowS_own {α : Type} {S : Nat → Prop} {P : World → Value → α → Prop} {w : World} {B T : Nat} {v : Value} {l : List α} {us : List Value} (h : w.ownsRow B T 1 v l.length us) (hS : ∀ b, v.ownBlock = some b → S b) (hP : ∀ (k : Nat) u x, us[k]? = some u → l[k]? = some x → P w u x) : RowS S P w v l := by
  obtain ⟨h1, ⟨rfl, h2⟩ | ⟨g, cap, cur, rfl, h3, h4, h5, h6, h7, h8⟩⟩ := h
  · have e : l = [] := List.eq_nil_of_length_eq_zero h2
    subst e
    exact ⟨none, 0, rfl, fun k x hx => by simp at hx⟩
  · refine ⟨some ⟨g, 0, none⟩, cap, rfl, fun k x hx => ?_⟩
    have hk := (List.getElem?_eq_some_iff.1 hx).1
    have hA : At w g T cur := h4
    obtain ⟨u, hu⟩ : ∃ u, us[k]? = some u := ⟨_, List.getElem?_eq_getElem (by omega)⟩
    refine ⟨g, 0, u, rfl, hS g rfl, hA.lt, ?_, hP k u x hu hx⟩
    rw [hA.cell, Nat.zero_add]
    rw [← h8, Nat.mul_one, List.getElem?_take_of_lt (by omega)] at hu
    simpa using hu
theorem OwnI.is1 {S : Nat → Prop} {w : World} {B : Nat} {v : Value} {zs : List Int} (h : OwnI w B v zs) (hS : ∀ b, B ≤ b → b < w.heap.size → S b) : Is1 S w v zs :=
  rowS_own h (fun b hb => hS b (World.ownsRow.lt h b hb).1 (World.ownsRow.lt h b hb).2) fun k u x hu hx => by
    rw [List.getElem?_map, hx] at hu
    simpa using hu.symm
theorem Own2.is2 {S : Nat → Prop} {w : World} {B : Nat} {v : Value} {R : List (List Int)} {vs : List Value} (h : Own2 w B v R vs) (hS : ∀ b, B ≤ b → b < w.heap.size → S b) : Is2 S w v R :=
  rowS_own h.own (fun b hb => hS b (World.ownsRow.lt h.own b hb).1 (World.ownsRow.lt h.own b hb).2) fun k u x hu hx => (h.row k u x hu hx).is1 hS
theorem Lns.row {L : List Gy} {R : List (List Int)} (h : Lns L R) {r : List Int} (hr : r ∈ R) : (∀ z ∈ r, 0 ≤ z ∧ z < L.length) ∧ r.length ≤ L.length := by
  obtain ⟨zs, h1, h2, h3, h4⟩ := h
  obtain ⟨k, hk, rfl⟩ := List.getElem_of_mem hr
  have q := (h4 k _ _ (List.getElem?_eq_getElem hk) (List.getElem?_eq_getElem (by omega))).1
  have hsub := lnsP_sub L zs _ (Nat.le_refl _) (List.getElem_mem (show k < (lnsP L zs zs.length).length by omega))
  refine ⟨fun z hz => txP_mem (h1.mem_iff.1 (hsub.subset (q.mem_iff.1 hz))), ?_⟩
  rw [q.length_eq]
  refine Nat.le_trans hsub.length_le ?_
  rw [h1.length_eq]
  exact txP_len L L.length
theorem Lns.many {L : List Gy} {R : List (List Int)} (h : Lns L R) : R.length ≤ L.length := by
  obtain ⟨zs, h1, h2, h3, h4⟩ := h
  rw [h3]
  refine Nat.le_trans (lnsP_len L zs zs.length) ?_
  rw [h1.length_eq]
  exact txP_len L L.length
/-- The words of all lines. -/
def wdsR (L : List Gy) (R : List (List Int)) : List (List (List Int)) := R.map fun r => wdsP L r r.length
theorem infoRR : (Try.prog.info? 36).map (fun i => (i.zero, i.size, i.bytes)) = some (some (.slice none 0 0), 1, 24) := by kernel_rfl
section
variable {W : World} {ops : Array Oper} {rest : List Oper} {o : Oper} {act : Act} {Q : Exit → Act → World → Prop}
theorem wpAppW (hgd : o.guard = none) (s x : Operand) (ho : o.op = .call { callee := .builtin .append, args := #[s, x], argTypes := #[34, 34] })
    (B : Nat) (v : Value) (n : Nat) (us : List Value) (hs : act.eval s = v) (hown : W.ownsRow B 36 1 v n us) (g : Nat) (a : Option Addr) (m c : Nat) (hx : act.eval x = .slice (some ⟨g, 0, none⟩) 1 1) (hc : W.cell? ⟨g, 0, none⟩ = some (.slice a m c)) (hlim : n ≤ 100000000) (hB : B ≤ W.heap.size)
    (h : ∀ v' w', w'.ownsRow B 36 1 v' (n + 1) (us ++ [.slice a m c]) → W.grownBy w' v.ownBlock → (v'.ownBlock = v.ownBlock ∨ v'.ownBlock = some W.heap.size) → wpList Try.prog ops Q rest (act.put o.dst v') w') : wpList Try.prog ops Q (o :: rest) act W := by
  obtain ⟨iV, hiV, hv0, hv1, hv2⟩ := info_parts infoRR
  refine wpList_append_own_at (P := Try.prog) _ hgd s x _ ho B _ iV _ 1 24 Try.underlying34 hiV hv0 hv1 hv2 rfl (by decide) v n _ hs hown ⟨g, 0, none⟩ 1 1 [.slice a m c] hx rfl (fun j u hj => ?_) (fun u hu => by rw [List.mem_singleton] at hu; subst hu; rfl) (by unfold maxLen; omega) (by omega) hB ?_
  · match j, hj with
    | 0, hj => injection hj with hj; subst hj; rw [Lib.add_plain]; exact hc
    | j + 1, hj => simp at hj
  · intro v' w' O2 g2 _ g3
    exact h v' w' O2 g2 g3
end
def WdsRes (L : List Gy) (w : World) (e : Ending) (w' : World) : Prop := ∃ v R, e = .returned v ∧ Lns L R ∧ Is3 (fun b => w.heap.size ≤ b) w' v (wdsR L R) ∧ Below w.heap.size w w'
/-- What the loop has made so far. -/
def WdsSo (L : List Gy) (R : List (List Int)) (B : Nat) (w : World) (v : Value) (p : Nat) (us : List Value) : Prop := w.ownsRow B 36 1 v p us ∧ ∀ (k : Nat) u x, us[k]? = some u → (wdsR L R)[k]? = some x → Is2 (fun b => B ≤ b ∧ v.ownBlock ≠ some b) w u x
theorem WdsSo.next {L : List Gy} {R : List (List Int)} {B p m c : Nat} {wr w2 w3 : World} {v v' : Value} {us vs : List Value} {a : Option Addr} {r : List Int} (h : WdsSo L R B wr v p us) (hB : B ≤ wr.heap.size) (hr : R[p]? = some r) (hO : Own2 w2 wr.heap.size (.slice a m c) (wdsP L r r.length) vs) (hb : Below wr.heap.size wr w2)
    (o : Obj) (h1 : w3.ownsRow B 36 1 v' (p + 1) (us ++ [.slice a m c])) (hg : (w2.alloc o).grownBy w3 v.ownBlock) (hv : v'.ownBlock = v.ownBlock ∨ v'.ownBlock = some (w2.alloc o).heap.size) : WdsSo L R B w3 v' (p + 1) (us ++ [.slice a m c]) := by
  have hlt := World.ownsRow.lt h.1
  have hup : us.length = p := by have := h.1.1; omega
  have hS2 : ∀ b, b < (w2.alloc o).heap.size → v.ownBlock ≠ some b → v'.ownBlock ≠ some b := fun b hb hs e => by
    rcases hv with q | q
    · exact hs (q ▸ e)
    · rw [q] at e; injection e with e; omega
  have key : ∀ {u : Value} {x : List (List Int)}, Is2 (fun b => B ≤ b ∧ v.ownBlock ≠ some b) w2 u x → Is2 (fun b => B ≤ b ∧ v'.ownBlock ≠ some b) w3 u x := fun {u x} q =>
    ((Is2.imp (S' := fun b => (B ≤ b ∧ v.ownBlock ≠ some b) ∧ b < (w2.alloc o).heap.size) (q.kept (w' := w2.alloc o) (.of ((Below.refl _ _).alloc (Nat.le_refl _) _))) fun b hb hs => ⟨hs, hb⟩).kept (w' := w3) (.grown hg fun b hs e => hs.1.2 e.symm)).imp fun b _ hs => ⟨hs.1.1, hS2 b hs.2 hs.1.2⟩
  refine ⟨h1, fun k u x hu hx => ?_⟩
  by_cases hk : k < us.length
  · rw [List.getElem?_append_left hk] at hu
    exact key ((h.2 k u x hu hx).kept (.of hb))
  · have hk2 : k = us.length := by have := (List.getElem?_eq_some_iff.1 hu).1; simp at this; omega
    subst hk2
    rw [List.getElem?_append_right (Nat.le_refl _), Nat.sub_self] at hu
    injection hu with hu
    subst hu
    unfold wdsR at hx
    rw [hup, List.getElem?_map, hr] at hx
    injection hx with hx
    subst hx
    exact key (hO.is2 fun b q1 _ => ⟨by omega, fun e => by have := (hlt b e).2; omega⟩)
set_option maxHeartbeats 8000000 in
theorem Words_says (L : List Gy) (al : Option Addr) (c : Nat) (w : World) (hl : L.length ≤ 1000) (hok : ∀ g ∈ L, GyOk g) (hG : GyAt w al L) :
    Calls Try.prog 12 #[.slice al L.length c] w fun e w' => WdsRes L w e w' := by
  have HG := hid hG
  have HK := hid hok
  clear hG hok
  go_enter Try.func12, Try.ntmps12
  go_wp2_with (go_at_call 19; fail)
  go_at_call 19
  refine (lines_says L al c w hl HK.out HG.out).mono ?_
  rintro e w1 ⟨v0, R, vs, B, rfl, hR, hB, hO, hb1⟩
  have HR := hid hR
  have hRn := hR.many
  have hI := Own2.is2 (S := fun _ => True) hO fun _ _ _ => trivial
  clear hR
  obtain ⟨a0, c0, e0, hI⟩ := hI
  subst e0
  have HI := hid hI
  have HB := hid hb1
  clear hI hO hb1 hB
  go_wp2_with fail
  go_loopw [3, 9] (fun v i wr => ∃ (p : Nat) (us : List Value), i = .int .i64 p ∧ p ≤ R.length ∧ Hid (WdsSo L R w1.heap.size wr v p us) ∧ Below w1.heap.size w1 wr) (fun _ i _ => R.length - (intOf i).toNat)
  case atStart => exact ⟨0, [], rfl, Nat.zero_le _, hid ⟨World.ownsRow_nil _ _ _ _, fun k u x h => by simp at h⟩, Below.refl _ _⟩
  case round =>
    obtain ⟨p, us, rfl, hp, HO, hB⟩ := hrel
    by_cases hpl : p < R.length
    · have hpl' : (p : Int) < R.length := by omega
      obtain ⟨b, off, u, rfl, _, hb, cz, hu⟩ := HI.out p _ (List.getElem?_eq_getElem hpl)
      have hrow := HR.out.row (List.getElem_mem hpl)
      have HP := hid (List.getElem?_eq_getElem hpl)
      have cz2 := (hB.cell (p := ⟨b, off + p, none⟩) hb).trans cz
      obtain ⟨au, cu, eu, hIn⟩ := Is1.inAt (hu.kept (.of hB))
      have HX := hid (words_says L R[p] al au c cu wr (by omega) HK.out hrow.1 (HG.out.later (HB.out.trans (hB.mono HB.out.size))) hIn)
      clear hIn hu cz hrow hb
      generalize R[p] = r at *
      subst eu
      have hBs := hB.size
      go_wp2_with (go_at_call 20; fail)
      go_at_call 20
      refine HX.out.mono ?_
      rintro e w2 ⟨v2, vs2, rfl, hO2, hb2⟩
      obtain ⟨a2, c2, e2⟩ := hO2.form
      subst e2
      have H2 := hid (And.intro hO2 hb2)
      have hb2s := hb2.size
      have HO2 := hid ((World.ownsRow.kept HO.out.1 (grown_below hb2) (by cases u3.ownBlock <;> simp)))
      clear hO2 hb2
      go_wp2_with (at_builtin; go_loud (refine wpAppW rfl _ _ rfl w1.heap.size _ p us rfl (by exact World.ownsRow.alloc HO2.out _) _ a2 (wdsP L r r.length).length c2 rfl (by simp) (by omega) (by simp; omega) ?_); intro v' w3 h1 h2 h3; have H3 := hid (And.intro h1 (And.intro h2 h3)); clear h1 h2 h3)
      go_roundw
      case rel => exact ⟨p + 1, us ++ [.slice a2 (wdsP L r r.length).length c2], by go_num, by omega, hid (HO.out.next hBs HP.out H2.out.1 H2.out.2 _ H3.out.1 H3.out.2.1 H3.out.2.2), ((hB.trans (H2.out.2.mono hBs)).alloc (by omega) _).grown H3.out.2.1 (by simp; omega) (fun k hk => (World.ownsRow.lt HO.out.1 k hk).1)⟩
      case measure => simp [intOf]; omega
    · have hpl' : ¬ (p : Int) < R.length := by omega
      have e : p = R.length := by omega
      subst e
      go_wp2_with fail
      go_ret
      refine ⟨_, R, rfl, HR.out, ?_, HB.out.trans (hB.mono HB.out.size)⟩
      have q : RowS (fun b => w.heap.size ≤ b) (Is2 (fun b => w.heap.size ≤ b)) wr u3 (wdsR L R) := rowS_own (T := 36) (B := w1.heap.size) (us := us) (by unfold wdsR; rw [List.length_map]; exact HO.out.1) (fun b hb => Nat.le_trans HB.out.size (World.ownsRow.lt HO.out.1 b hb).1) fun k u x hu hx => (HO.out.2 k u x hu hx).imp fun b _ hs => Nat.le_trans HB.out.size hs.1
      exact q
end Go.Proofs.Ytogdfjkbkhnobaa
