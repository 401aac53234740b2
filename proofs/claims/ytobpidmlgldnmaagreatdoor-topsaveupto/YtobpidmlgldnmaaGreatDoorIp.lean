/-
  Joined: Iq, Iu, Ip.
-/
import Derived.Test.YtobpidmlgldnmaaGreatDoorIk
import Derived.Test.YtobpidmlgldnmaaGreatDoorMb
import Derived.Test.YtobpidmlgldnmaaGreatDoorIl

/-
  A painter: a font is chosen.
-/
namespace Go.Proofs.YtobpidmlgldnmaaGreatDoor
open Go.RowKit
set_option maxRecDepth 100000

/-- A font's cells: two maps, a slice. -/
def FnC.shp (x : FnC) : Prop := ∃ i j a n c, x.mw = .map i ∧ x.mn = .map j ∧ x.sl = .slice a n c
theorem FnC.shp.one {x : FnC} (h : x.shp) : x.one := by
  obtain ⟨i, j, a, n, c, h1, h2, h3⟩ := h
  exact ⟨by rw [h1]; rfl, by rw [h2]; rfl, by rw [h3]; rfl⟩
abbrev FnC.v (x : FnC) : Value := .agg #[.bool x.wide, x.mw, .int .i64 x.miss, x.mn, x.sl]
/-- The fonts of a page, by their names. -/
def FontsAt (K : Pk) (ff : ByteArray → Option FnC) : Prop := ∀ W, Below K.w0.heap.size K.w0 W → ∀ s : ByteArray, s.size ≤ maxLen → (∃ x, ff s = some x ∧ x.shp ∧ (Instr.lookup 24 K.fm (.string s) true).run Tryz.prog W = .ok (.tuple #[x.v, .bool true]) W) ∨ (ff s = none ∧ (Instr.lookup 24 K.fm (.string s) true).run Tryz.prog W = .ok (.tuple #[.agg #[.bool false, .map none, .int .i64 0, .map none, .slice none 0 0], .bool false]) W)
def chooseX (ff : ByteArray → Option FnC) (p : PS) (A : List V) : Ex PS := match A with
  | [a, b] => if a.k = 4 then if b.k = 2 then (match ff a.s with
      | some x => .ok { p with now := { p.now with x := x, has := true, size := b.n } }
      | none => .error 6) else .error 8 else .error 8
  | _ => .error 8
theorem PAt.fx {K : Pk} {w : World} {p : PS} {tS tG : Value} (h : PAt K w p tS tG) (x : FnC) (n : Int) : PAt K (((((((w.setCell ⟨K.P, 8, none⟩ (.bool x.wide)).setCell ⟨K.P, 9, none⟩ x.mw).setCell ⟨K.P, 10, none⟩ (.int .i64 x.miss)).setCell ⟨K.P, 11, none⟩ x.mn).setCell ⟨K.P, 12, none⟩ x.sl).setCell ⟨K.P, 13, none⟩ (.bool true)).setCell ⟨K.P, 14, none⟩ (.int .i64 n)) { p with now := { p.now with x := x, has := true, size := n } } tS tG :=
  h.sets 8 [.bool x.wide, x.mw, .int .i64 x.miss, x.mn, x.sl, .bool true, .int .i64 n] { p with now := { p.now with x := x, has := true, size := n } } rfl rfl rfl
set_option maxHeartbeats 2000000 in
theorem choose_len (K : Pk) (p : PS) (tS tG : Value) (A : List V) (a : Option Addr) (c : Nat) (w : World) (hP : PAt K w p tS tG) (hA : A.length ≤ maxLen) (hl : A.length ≠ 2) :
    Calls Tryz.prog 45 #[.pointer (some ⟨K.P, 0, none⟩), .slice a A.length c] w fun e w' => PRes K e w' (.error 8) := by
  unfold maxLen at hA
  have hA' := hA
  have HP := hid hP
  have h2 : ¬ (A.length : Int) = 2 := by omega
  have h3 : ((A.length : Int) == 2) = false := by simpa using h2
  clear hP
  go_enter Tryz.func45, Tryz.ntmps45
  go_wp2_with fail
  go_ret
  exact PRes.err rfl HP.out.keep
set_option maxHeartbeats 2000000 in
theorem choose_two (K : Pk) (ff : ByteArray → Option FnC) (p : PS) (tS tG : Value) (d : Nat) (v u : V) (t : Value) (w : World) (hP : PAt K w p tS tG) (hA : ArgsAt d w t [v, u]) (hF : FontsAt K ff) :
    Calls Tryz.prog 45 #[.pointer (some ⟨K.P, 0, none⟩), t] w fun e w' => PRes K e w' (chooseX ff p [v, u]) := by
  have HP := hid hP
  obtain ⟨a, c, rfl, _, hA⟩ := hA
  obtain ⟨b, off, cs, rfl, hbl, hc, hr⟩ := hA 0 v rfl
  obtain ⟨b', off', cs', e', _, hc', hr'⟩ := hA 1 u rfl
  cases e'
  obtain ⟨d0, rfl⟩ := hr.inv
  obtain ⟨al0, af0, cl0, cf0, rfl, hsz, _⟩ := hr
  obtain ⟨al1, af1, cl1, cf1, rfl, _⟩ := hr'
  have hLK := hF w hP.keep v.s hsz.1
  have HLK := hid (fun W (hW : Below w.heap.size w W) => hF W (chn0 hP.keep hW) v.s hsz.1)
  have m0 := hc 0 _ rfl
  have m1 := hc 1 _ rfl
  have m2 := hc 2 _ rfl
  have n0 := hc' 0 _ rfl
  have n1 := hc' 1 _ rfl
  simp only [Nat.zero_mul, Nat.add_zero, Nat.one_mul] at m0 m1 m2 n0 n1
  have c0 := hP.c 0
  have c8 := hP.c 8
  have c9 := hP.c 9
  have c10 := hP.c 10
  have c11 := hP.c 11
  have c12 := hP.c 12
  have c13 := hP.c 13
  have c14 := hP.c 14
  simp at c8 c9 c10 c11 c12 c13 c14
  have rf := hP.at_.free
  have zP := hP.at_.lt
  simp at c0
  clear hc hc' hA hF hsz
  by_cases h4 : v.k = 4
  · by_cases h2 : u.k = 2
    · have this : chooseX ff p [v, u] = (match ff v.s with
          | some x => .ok { p with now := { p.now with x := x, has := true, size := u.n } }
          | none => .error 6) := by unfold chooseX; simp only [h4, h2, if_true]
      rw [this]
      clear this
      rw [h4] at m0
      rw [h2] at n0
      rcases hLK with ⟨x, hx, ho, hlk⟩ | ⟨hx, hlk⟩
      · rw [hx]
        obtain ⟨wide, mw, miss, mn, sl⟩ := x
        obtain ⟨i1, i2, i3, i4, i5, e1, e2, e3⟩ := ho
        simp only at e1 e2 e3
        subst e1 e2 e3
        clear hlk
        have HFX := hid hx
        have H0 := hid (show ∀ W, Below w.heap.size w W → Below w.heap.size w W ∧ W.cell? ⟨K.P, 0, none⟩ = some K.fm ∧ W.cell? ⟨b, off + 2, none⟩ = some (.string v.s) ∧ (Instr.lookup 24 K.fm (.string v.s) true).run Tryz.prog W = .ok (.tuple #[.agg #[.bool wide, .map i1, .int .i64 miss, .map i2, .slice i3 i4 i5], .bool true]) W from fun W hW => ⟨hW, (HP.out.later hW).c 0, (hW.cell (p := ⟨b, off + 2, none⟩) hbl).trans m2, by
          rcases HLK.out W hW with ⟨x', hx', _, hl'⟩ | ⟨hx', _⟩
          · rw [HFX.out] at hx'; cases hx'; exact hl'
          · rw [HFX.out] at hx'; cases hx'⟩)
        clear hP hx h4 h2 HLK HFX
        go_enter Tryz.func45, Tryz.ntmps45
        go_wp2_with fail
        go_region_held3 (fun (W : World) => Below w.heap.size w W ∧ W.cell? ⟨K.P, 0, none⟩ = some K.fm ∧ W.cell? ⟨b, off + 2, none⟩ = some (.string v.s) ∧ (Instr.lookup 24 K.fm (.string v.s) true).run Tryz.prog W = .ok (.tuple #[.agg #[.bool wide, .map i1, .int .i64 miss, .map i2, .slice i3 i4 i5], .bool true]) W)
          (first | with_reducible exact H0.out _ (Below.refl _ _) | with_reducible exact H0.out _ (Below.refl _ _).drew | with_reducible exact H0.out _ ((Below.refl _ _).alloc (Nat.le_refl _) _) | with_reducible exact H0.out _ ((Below.refl _ _).alloc (Nat.le_refl _) _).drew | with_reducible exact H0.out _ ((Below.refl _ _).drew.alloc (Nat.le_refl _) _))
          (first | fail)
        all_goals
          have X1 := (At.new w #[.bool wide, .map i1, .int .i64 miss, .map i2, .slice i3 i4 i5] 56 rfl).drew
          have P1 := hid (HP.out.alloc (.cells #[.bool wide, .map i1, .int .i64 miss, .map i2, .slice i3 i4 i5] 56)).drew
          have B1 : Below w.heap.size w (w.alloc (.cells #[.bool wide, .map i1, .int .i64 miss, .map i2, .slice i3 i4 i5] 56)).drew := ((Below.refl _ _).alloc (Nat.le_refl _) _).drew
          clear m0 m1 m2 n0 c0 c8 c9 c10 c11 c12 c13 c14 rf H0 HP
          have n2 := (B1.cell (p := ⟨b, off + 5 + 1, none⟩) hbl).trans n1
          clear n1
          have xb : w.heap.size ≠ K.P := by omega
          have xc : K.P ≠ w.heap.size := by omega
          generalize (w.alloc (.cells #[.bool wide, .map i1, .int .i64 miss, .map i2, .slice i3 i4 i5] 56)).drew = w1 at X1 P1 B1 n2 ⊢
          have x0 := X1.cell 0
          have x1 := X1.cell 1
          have x2 := X1.cell 2
          have x3 := X1.cell 3
          have x4 := X1.cell 4
          have xz := X1.lt
          have pz := P1.out.at_.lt
          have pf := P1.out.at_.free
          have bz : b < w1.heap.size := Nat.lt_of_lt_of_le hbl B1.size
          have d8 := P1.out.c 8
          have d9 := P1.out.c 9
          have d10 := P1.out.c 10
          have d11 := P1.out.c 11
          have d12 := P1.out.c 12
          have d13 := P1.out.c 13
          have d14 := P1.out.c 14
          simp at d8 d9 d10 d11 d12 d13 d14
          simp at x0 x1 x2 x3 x4
          clear X1 B1 zP
          go_wp2_with fail
          go_region
          all_goals
            go_wp2_with fail
            go_ret
            first
              | exact PRes.done rfl (P1.out.fx ⟨wide, .map i1, miss, .map i2, .slice i3 i4 i5⟩ u.n).drew
              | exact PRes.done rfl (P1.out.drew.fx ⟨wide, .map i1, miss, .map i2, .slice i3 i4 i5⟩ u.n)
              | exact PRes.done rfl (P1.out.fx ⟨wide, .map i1, miss, .map i2, .slice i3 i4 i5⟩ u.n)
      · rw [hx]
        clear hlk
        have HFX := hid hx
        have H0 := hid (show ∀ W, Below w.heap.size w W → Below w.heap.size w W ∧ W.cell? ⟨K.P, 0, none⟩ = some K.fm ∧ W.cell? ⟨b, off + 2, none⟩ = some (.string v.s) ∧ (Instr.lookup 24 K.fm (.string v.s) true).run Tryz.prog W = .ok (.tuple #[.agg #[.bool false, .map none, .int .i64 0, .map none, .slice none 0 0], .bool false]) W from fun W hW => ⟨hW, (HP.out.later hW).c 0, (hW.cell (p := ⟨b, off + 2, none⟩) hbl).trans m2, by
          rcases HLK.out W hW with ⟨x', hx', _, hl'⟩ | ⟨_, hl'⟩
          · rw [HFX.out] at hx'; cases hx'
          · exact hl'⟩)
        clear hP hx h4 h2 HLK HFX
        go_enter Tryz.func45, Tryz.ntmps45
        go_wp2_with fail
        go_region_held3 (fun (W : World) => Below w.heap.size w W ∧ W.cell? ⟨K.P, 0, none⟩ = some K.fm ∧ W.cell? ⟨b, off + 2, none⟩ = some (.string v.s) ∧ (Instr.lookup 24 K.fm (.string v.s) true).run Tryz.prog W = .ok (.tuple #[.agg #[.bool false, .map none, .int .i64 0, .map none, .slice none 0 0], .bool false]) W)
          (first | with_reducible exact H0.out _ (Below.refl _ _) | with_reducible exact H0.out _ (Below.refl _ _).drew | with_reducible exact H0.out _ ((Below.refl _ _).alloc (Nat.le_refl _) _) | with_reducible exact H0.out _ ((Below.refl _ _).alloc (Nat.le_refl _) _).drew | with_reducible exact H0.out _ ((Below.refl _ _).drew.alloc (Nat.le_refl _) _))
          (first | fail)
        all_goals
          go_wp2_with fail
          go_ret
          first | exact PRes.err rfl (HP.out.alloc _).drew.keep | exact PRes.err rfl (HP.out.drew.alloc _).keep | exact PRes.err rfl (HP.out.alloc _).keep
    · have this : chooseX ff p [v, u] = .error 8 := by unfold chooseX; simp only [h4, h2, if_true, if_false]
      rw [this]
      rw [h4] at m0
      have h5 : (u.k == 2) = false := by simpa using h2
      clear hP h4 this hLK
      go_enter Tryz.func45, Tryz.ntmps45
      go_wp2_with fail
      go_ret
      exact PRes.err rfl HP.out.keep
  · have this : chooseX ff p [v, u] = .error 8 := by unfold chooseX; simp only [h4, if_false]
    rw [this]
    have h5 : (v.k == 4) = false := by simpa using h4
    clear hP this hLK
    go_enter Tryz.func45, Tryz.ntmps45
    go_wp2_with fail
    go_ret
    exact PRes.err rfl HP.out.keep
theorem choose_says (K : Pk) (ff : ByteArray → Option FnC) (p : PS) (tS tG : Value) (d : Nat) (A : List V) (t : Value) (w : World) (hP : PAt K w p tS tG) (hA : ArgsAt d w t A) (hF : FontsAt K ff) :
    Calls Tryz.prog 45 #[.pointer (some ⟨K.P, 0, none⟩), t] w fun e w' => PRes K e w' (chooseX ff p A) := by
  match A, hA with
  | [v, u], hA => exact choose_two K ff p tS tG d v u t w hP hA hF
  | [], hA =>
    obtain ⟨a, c, rfl, h1, _⟩ := hA
    exact choose_len K p tS tG [] a c w hP h1 (by simp)
  | [v], hA =>
    obtain ⟨a, c, rfl, h1, _⟩ := hA
    exact choose_len K p tS tG [v] a c w hP h1 (by simp)
  | v :: u :: x :: l, hA =>
    obtain ⟨a, c, rfl, h1, _⟩ := hA
    exact choose_len K p tS tG (v :: u :: x :: l) a c w hP h1 (by simp)
end Go.Proofs.YtobpidmlgldnmaaGreatDoor

/-
  A painter: a string is shown.
-/
namespace Go.Proofs.YtobpidmlgldnmaaGreatDoor
open Go.RowKit
set_option maxRecDepth 100000

/-- Signs of a string, as a call answers them. -/
def SigA (w w' : World) (e : Ending) (r : Ex (List Sp)) : Prop := match r with
  | .ok l => l.length ≤ 1000 ∧ ∃ v, e = .returned (.tuple #[v, .nilIface]) ∧ OwnG w' w.heap.size v l
  | .error k => e = .returned (.tuple #[.slice none 0 0, .iface 68 (.int .i64 k)])
/-- A font by which strings are told as signs. -/
def SigOk (K : Pk) (sg : FnC → ByteArray → Ex (List Sp)) (x : FnC) : Prop := x.shp ∧ ∀ (W : World) (s : ByteArray), Below K.w0.heap.size K.w0 W → s.size ≤ 1000 → Calls Tryz.prog 87 #[x.v, .string s] W fun e w' => SigA W w' e (sg x s) ∧ Below W.heap.size W w'
theorem signsX_take {p : PS} : ∀ (l : List Sp) (j : Nat) {p' : PS} {g : Sp}, signsX p (l.take j) = .ok p' → l[j]? = some g → signsX p (l.take (j + 1)) = signX p' g := by
  intro l
  induction l generalizing p with
  | nil => intro j p' g _ h; simp at h
  | cons a l ih =>
    intro j p' g h1 h2
    cases j with
    | zero =>
      simp [signsX] at h1 h2
      subst h1; subst h2
      simp only [Nat.zero_add, List.take_succ_cons, List.take_zero, signsX]
      cases signX p a <;> rfl
    | succ j =>
      simp only [List.take_succ_cons, signsX] at h1 ⊢
      cases hs : signX p a with
      | error k => rw [hs] at h1; cases h1
      | ok q =>
        rw [hs] at h1
        exact ih j h1 (by simpa using h2)
theorem signsX_err {p : PS} : ∀ (l : List Sp) (j : Nat) {k : Int}, signsX p (l.take j) = .error k → signsX p l = .error k := by
  intro l
  induction l generalizing p with
  | nil => intro j k h; simpa using h
  | cons a l ih =>
    intro j k h
    cases j with
    | zero => simp [signsX] at h
    | succ j =>
      simp only [List.take_succ_cons, signsX] at h ⊢
      cases hs : signX p a with
      | error k => rw [hs] at h; exact h
      | ok q => rw [hs] at h; exact ih j h
theorem signX_out {p p' : PS} {g : Sp} (h : signX p g = .ok p') : p'.out.length ≤ 1000 := by
  unfold signX at h
  split at h
  · cases h
  · rename_i h1
    cases hp : placeX p.now p.t with
    | error k => rw [hp] at h; cases h
    | ok m =>
      rw [hp] at h
      replace h : ((glyphX m g).bind fun gl => (advX p.now g).bind fun x => (alongX x 0 p.t).bind fun t => Except.ok ({ p with out := p.out ++ [{ gl with sz := p.now.size }], t := t } : PS)) = .ok p' := h
      cases hg : glyphX m g with
      | error k => rw [hg] at h; cases h
      | ok gl =>
        rw [hg] at h
        replace h : ((advX p.now g).bind fun x => (alongX x 0 p.t).bind fun t => Except.ok ({ p with out := p.out ++ [{ gl with sz := p.now.size }], t := t } : PS)) = .ok p' := h
        cases ha : advX p.now g with
        | error k => rw [ha] at h; cases h
        | ok x =>
          rw [ha] at h
          replace h : ((alongX x 0 p.t).bind fun t => Except.ok ({ p with out := p.out ++ [{ gl with sz := p.now.size }], t := t } : PS)) = .ok p' := h
          cases hl : alongX x 0 p.t with
          | error k => rw [hl] at h; cases h
          | ok t =>
            rw [hl] at h
            injection h with h
            rw [← h]
            simp
            omega
theorem signsX_out : ∀ (l : List Sp) {p p' : PS}, p.out.length ≤ 1000 → signsX p l = .ok p' → p'.out.length ≤ 1000
  | [], p, p', h, q => by injection q with q; rw [← q]; exact h
  | g :: l, p, p', _, q => by
    unfold signsX at q
    cases hs : signX p g with
    | error k => rw [hs] at q; cases q
    | ok r => rw [hs] at q; exact signsX_out l (signX_out hs) q
set_option maxHeartbeats 4000000 in
theorem show_none (K : Pk) (p : PS) (tS tG : Value) (s : ByteArray) (w : World) (hP : PAt K w p tS tG) (h1 : ¬ (p.now.has = true ∧ p.inn = true)) :
    Calls Tryz.prog 73 #[.pointer (some ⟨K.P, 0, none⟩), .string s] w fun e w' => GRes K w tG e w' (.error 6) := by
  have c13 := hP.c 13
  have c21 := hP.c 21
  simp at c13 c21
  have HP := hid hP
  have zP := hP.at_.lt
  clear hP
  have hx : p.now.has = false ∨ (p.now.has = true ∧ p.inn = false) := by
    cases hh : p.now.has with
    | false => exact .inl rfl
    | true => exact .inr ⟨rfl, by cases hi : p.inn with | false => rfl | true => exact absurd ⟨hh, hi⟩ h1⟩
  clear h1
  rcases hx with h | ⟨h, h'⟩
  · rw [h] at c13
    go_enter Tryz.func73, Tryz.ntmps73
    go_wp2_with fail
    go_ret
    exact GRes.err rfl HP.out.keep
  · rw [h] at c13
    rw [h'] at c21
    go_enter Tryz.func73, Tryz.ntmps73
    go_wp2_with fail
    go_ret
    exact GRes.err rfl HP.out.keep
set_option maxHeartbeats 4000000 in
theorem show_bad (K : Pk) (sg : FnC → ByteArray → Ex (List Sp)) (p : PS) (tS tG : Value) (s : ByteArray) (k : Int) (w : World) (hP : PAt K w p tS tG) (h1 : p.now.has = true) (h2 : p.inn = true) (hs : s.size ≤ 1000) (hf : SigOk K sg p.now.x) (hl : sg p.now.x s = .error k) :
    Calls Tryz.prog 73 #[.pointer (some ⟨K.P, 0, none⟩), .string s] w fun e w' => GRes K w tG e w' (.error k) := by
  have c13 := hP.c 13
  have c21 := hP.c 21
  have c8 := hP.c 8
  have c9 := hP.c 9
  have c10 := hP.c 10
  have c11 := hP.c 11
  have c12 := hP.c 12
  simp at c8 c9 c10 c11 c12 c13 c21
  rw [h1] at c13
  rw [h2] at c21
  have HF := hid hf
  have HL := hid hl
  have HS := hid hs
  have HP := hid hP
  have zP := hP.at_.lt
  clear hP hf hl h1 h2 hs
  go_enter Tryz.func73, Tryz.ntmps73
  go_wp2_with (go_at_call 87; fail)
  go_at_call 87
  refine (HF.out.2 _ _ HP.out.keep HS.out).mono ?_
  rintro e w1 ⟨hm, hb⟩
  rw [HL.out] at hm
  cases (show e = .returned (.tuple #[.slice none 0 0, .iface 68 (.int .i64 k)]) from hm)
  have P1 := hid (HP.out.later hb)
  clear hm hb c8 c9 c10 c11 c12 c13 c21
  go_wp2_with fail
  go_ret
  exact GRes.err rfl P1.out.keep
theorem cell_blockU {w w' : World} {b : Nat} (h : w'.heap[b]? = w.heap[b]?) (o : Nat) : w'.cell? ⟨b, o, none⟩ = w.cell? ⟨b, o, none⟩ := by
  unfold World.cell?
  simp only [h]
theorem NewG.refl (w : World) (t : Value) : NewG w t t := .inl rfl
theorem KeepG.refl (P : Nat) (t : Value) (w : World) : KeepG P t w w := .of (Below.refl _ _)
/-- Signs that were made stay as they are. -/
theorem sg_keep {K : Pk} {w w1 : World} {p : PS} {tS tG v : Value} {l : List Sp} (hP : PAt K w p tS tG) (hO : OwnG w1 w.heap.size v l) : ∃ al c, v = .slice al l.length c ∧ ∀ wr, KeepG K.P tG w1 wr → SgAt wr al l := by
  have hO' := hO
  rcases hO'.2 with ⟨rfl, h0⟩ | ⟨g, cap, cur, rfl, _⟩
  · refine ⟨none, 0, by rw [h0], fun wr _ i x hx => ?_⟩
    have : l = [] := List.eq_nil_of_length_eq_zero h0
    rw [this] at hx
    simp at hx
  · refine ⟨_, _, rfl, fun wr hk i x hx => ?_⟩
    obtain ⟨al, c, hv, hS⟩ := hO.at
    injection hv with hv _ _
    have hg := hO.lt g rfl
    obtain ⟨b, off, e, hb, c0, c1, c2⟩ := hS i x hx
    rw [← hv] at e
    injection e with e
    injection e with e1 e2
    subst e1
    have hbk : wr.heap[g]? = w1.heap[g]? := hk.2 g hg.2 (by have := hP.at_.lt; omega) (fun e => by have := (hP.ownG.lt g e).2; omega)
    exact ⟨g, off, by rw [e2], Nat.lt_of_lt_of_le hb hk.1, (cell_blockU hbk _).trans c0, (cell_blockU hbk _).trans c1, (cell_blockU hbk _).trans c2⟩
set_option maxHeartbeats 4000000 in
theorem show_ok (K : Pk) (sg : FnC → ByteArray → Ex (List Sp)) (p : PS) (tS tG : Value) (s : ByteArray) (l : List Sp) (w : World) (hP : PAt K w p tS tG) (h1 : p.now.has = true) (h2 : p.inn = true) (hs : s.size ≤ 1000) (ho : p.out.length ≤ 1000) (hf : SigOk K sg p.now.x) (hl : sg p.now.x s = .ok l) :
    Calls Tryz.prog 73 #[.pointer (some ⟨K.P, 0, none⟩), .string s] w fun e w' => GRes K w tG e w' (signsX p l) := by
  have c13 := hP.c 13
  have c21 := hP.c 21
  have c8 := hP.c 8
  have c9 := hP.c 9
  have c10 := hP.c 10
  have c11 := hP.c 11
  have c12 := hP.c 12
  simp at c8 c9 c10 c11 c12 c13 c21
  rw [h1] at c13
  rw [h2] at c21
  have HF := hid hf
  have HL := hid hl
  have HS := hid hs
  have HP := hid hP
  have HO := hid ho
  have zP := hP.at_.lt
  clear hP hf hl h1 h2 hs ho
  go_enter Tryz.func73, Tryz.ntmps73
  go_wp2_with (go_at_call 87; fail)
  go_at_call 87
  refine (HF.out.2 _ _ HP.out.keep HS.out).mono ?_
  rintro e w1 ⟨hm, hb⟩
  rw [HL.out] at hm
  obtain ⟨hn, v, rfl, hO⟩ := hm
  obtain ⟨al, c, rfl, hsk⟩ := sg_keep HP.out hO
  have SK := hid hsk
  have B1 := hid hb
  have P1 := hid (HP.out.later hb)
  have HN := hid hn
  clear hO hsk hb hn c8 c9 c10 c11 c12 c13 c21 zP
  go_wp2_with fail
  go_loopw [39] (fun i wr => ∃ (j : Nat) (q : PS) (uS uG : Value), i = .int .i64 j ∧ j ≤ l.length ∧ signsX p (l.take j) = .ok q ∧ q.out.length ≤ 1000 ∧ PAt K wr q uS uG ∧ KeepG K.P tG w1 wr ∧ NewG w1 tG uG) (fun i _ => l.length - (intOf i).toNat)
  case atStart => exact ⟨0, p, tS, tG, rfl, Nat.zero_le _, rfl, HO.out, P1.out, KeepG.refl _ _ _, NewG.refl _ _⟩
  case round =>
    obtain ⟨j, q, uS, uG, rfl, hj, hq, hqo, hPr, hK, hN⟩ := hrel
    have HQ := hid (And.intro hq (And.intro hqo (And.intro hPr (And.intro hK hN))))
    clear hq hqo hPr hK hN
    have hn := HN.out
    by_cases hlt : j < l.length
    · have hlt' : (j : Int) < l.length := by omega
      obtain ⟨g, hg⟩ : ∃ g, l[j]? = some g := ⟨l[j], by simp [hlt]⟩
      have HG := hid hg
      obtain ⟨b, off, rfl, hb, c0, c1, c2⟩ := SK.out _ HQ.out.2.2.2.1 j g hg
      clear hg
      go_wp2_with (go_at_call 88; fail)
      go_at_call 88
      refine (showSign_says K q uS uG g _ (HQ.out.2.2.1.alloc _) (by have := HQ.out.2.1; omega)).mono ?_
      intro e w2 hm
      obtain ⟨r, hr⟩ : ∃ r, signX q g = r := ⟨_, rfl⟩
      rw [hr] at hm
      have HR := hid hr
      clear hr c0 c1 c2
      cases r with
      | error k =>
        have HK := hid hm.2
        have he : e = .returned (.iface 68 (.int .i64 k)) := hm.1
        clear hm
        subst he
        go_wp2_with fail
        go_ret
        rw [signsX_err l (j + 1) ((signsX_take l j HQ.out.1 HG.out).trans HR.out)]
        exact GRes.err rfl HK.out
      | ok q2 =>
        obtain ⟨rfl, tS2, tG2, hP2, hk2, hn2⟩ := (hm : e = .returned .nilIface ∧ _)
        have HK := hid (And.intro hP2 (And.intro hk2 hn2))
        clear hP2 hk2 hn2
        go_wp2_with fail
        go_roundw
        case rel => exact ⟨j + 1, q2, tS2, tG2, by go_num, by omega, (signsX_take l j HQ.out.1 HG.out).trans HR.out, signX_out HR.out, HK.out.1, (HQ.out.2.2.2.1.later ((Below.refl _ _).alloc (Nat.le_refl _) _)).trans HQ.out.2.2.2.2 HK.out.2.1, HQ.out.2.2.2.2.trans HK.out.2.2 (Nat.le_trans HQ.out.2.2.2.1.1 (by simp))⟩
        case measure => simp [intOf]; omega
    · have hje : j = l.length := by omega
      subst hje
      go_wp2_with fail
      go_ret
      have := HQ.out.1
      rw [List.take_length] at this
      rw [this]
      exact ⟨rfl, uS, uG, HQ.out.2.2.1, ⟨Nat.le_trans B1.out.size HQ.out.2.2.2.1.1, fun i hi hp hx => (HQ.out.2.2.2.1.2 i (Nat.lt_of_lt_of_le hi B1.out.size) hp hx).trans (B1.out.block i hi)⟩, by
        rcases HQ.out.2.2.2.2 with q | ⟨g, q, hg⟩
        · exact .inl q
        · exact .inr ⟨g, q, Nat.le_trans B1.out.size hg⟩⟩
/-- A string is shown. -/
theorem show_says (K : Pk) (sg : FnC → ByteArray → Ex (List Sp)) (p : PS) (tS tG : Value) (s : ByteArray) (w : World) (hP : PAt K w p tS tG) (hs : s.size ≤ 1000) (ho : p.out.length ≤ 1000) (hf : p.now.has = true → SigOk K sg p.now.x) :
    Calls Tryz.prog 73 #[.pointer (some ⟨K.P, 0, none⟩), .string s] w fun e w' => GRes K w tG e w' (showX sg p s) := by
  unfold showX
  by_cases h : p.now.has = true ∧ p.inn = true
  · rw [if_pos h]
    cases hl : sg p.now.x s with
    | error k => exact show_bad K sg p tS tG s k w hP h.1 h.2 hs (hf h.1) hl
    | ok l => exact show_ok K sg p tS tG s l w hP h.1 h.2 hs ho (hf h.1) hl
  · rw [if_neg h]
    exact show_none K p tS tG s w hP h
end Go.Proofs.YtobpidmlgldnmaaGreatDoor

/-
  A painter: back by thousandths; a part of a list that is a number.
-/
namespace Go.Proofs.YtobpidmlgldnmaaGreatDoor
open Go.RowKit
set_option maxRecDepth 100000

def bckX (p : PS) (n : Int) : Ex PS := (mulX (wrap64 (-n)) p.now.size).bind fun x => (mulX x p.now.scale).bind fun x => textX p x
set_option maxHeartbeats 2000000 in
theorem back_1 (K : Pk) (p : PS) (tS tG : Value) (n k : Int) (w : World) (hP : PAt K w p tS tG) (h1 : mulX (wrap64 (-n)) p.now.size = .error k) :
    Calls Tryz.prog 89 #[.pointer (some ⟨K.P, 0, none⟩), .int .i64 n] w fun e w' => PRes K e w' (.error k) := by
  have HP := hid hP
  have c14 := hP.c 14
  have zP := hP.at_.lt
  simp at c14
  have C1 := hid (mul_x (wrap64 (-n)) p.now.size)
  have H1 := hid h1
  clear hP h1
  go_enter Tryz.func89, Tryz.ntmps89
  go_wp2_with (go_at_call 108; fail)
  go_at_call 108
  refine (C1.out _).mono ?_
  rintro e w1 ⟨hm, hb⟩
  rw [H1.out] at hm
  cases (show e = .returned (.tuple #[.int .i64 0, .iface 68 (.int .i64 k)]) from hm)
  have P1 := hid (HP.out.later hb)
  clear hm hb c14 zP HP
  go_wp2_with fail
  go_ret
  exact PRes.err rfl P1.out.keep
set_option maxHeartbeats 2000000 in
theorem back_2 (K : Pk) (p : PS) (tS tG : Value) (n x : Int) (r : Ex Int) (w : World) (hP : PAt K w p tS tG) (h1 : mulX (wrap64 (-n)) p.now.size = .ok x) (h2 : mulX x p.now.scale = r) :
    Calls Tryz.prog 89 #[.pointer (some ⟨K.P, 0, none⟩), .int .i64 n] w fun e w' => PRes K e w' (r.bind fun x => textX p x) := by
  have HP := hid hP
  have c14 := hP.c 14
  have zP := hP.at_.lt
  simp at c14
  have C1 := hid (mul_x (wrap64 (-n)) p.now.size)
  have C2 := hid (mul_x x p.now.scale)
  have H1 := hid h1
  have H2 := hid h2
  clear hP h1 h2
  go_enter Tryz.func89, Tryz.ntmps89
  go_wp2_with (go_at_call 108; fail)
  go_at_call 108
  refine (C1.out _).mono ?_
  rintro e w1 ⟨hm, hb⟩
  rw [H1.out] at hm
  cases (show e = .returned (.tuple #[.int .i64 x, .nilIface]) from hm)
  have P1 := hid (HP.out.later hb)
  clear hm hb c14 zP HP
  have c17 := P1.out.c 17
  have zP := P1.out.at_.lt
  simp at c17
  go_wp2_with (go_at_call 108; fail)
  go_at_call 108
  refine (C2.out _).mono ?_
  rintro e w2 ⟨hm, hb⟩
  rw [H2.out] at hm
  have P2 := hid (P1.out.later hb)
  clear hb c17 zP P1
  rcases numA_cases hm with ⟨z, rfl, rfl⟩ | ⟨k, rfl, rfl⟩
  · clear hm
    go_wp2_with (go_at_call 107; refine (textAlong_says K p tS tG z _ P2.out).mono ?_; intro e w3 h; obtain ⟨v, rfl⟩ := h.ret)
    go_ret
    exact h
  · clear hm
    go_wp2_with fail
    go_ret
    exact PRes.err rfl P2.out.keep
theorem back_says (K : Pk) (p : PS) (tS tG : Value) (n : Int) (w : World) (hP : PAt K w p tS tG) :
    Calls Tryz.prog 89 #[.pointer (some ⟨K.P, 0, none⟩), .int .i64 n] w fun e w' => PRes K e w' (bckX p n) := by
  unfold bckX
  cases h1 : mulX (wrap64 (-n)) p.now.size with
  | error k => exact back_1 K p tS tG n k w hP h1
  | ok x => exact back_2 K p tS tG n x _ w hP h1 rfl
end Go.Proofs.YtobpidmlgldnmaaGreatDoor
