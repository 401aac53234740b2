/-
  Joined: Ie, Ij, Iv.
-/
import Derived.Test.YtobpidmlgldnmaaGreatDoorIl
import Derived.Test.YtobpidmlgldnmaaGreatDoorOh

/-
  A painter: text begins and ends; states are saved and taken back.
-/
namespace Go.Proofs.YtobpidmlgldnmaaGreatDoor
open Go.RowKit
set_option maxRecDepth 100000

def turnX (p : PS) (on : Bool) (A : List V) : Ex PS := if p.inn = on then .error 10 else if A.length = 0 then .ok { p with inn := on, t := unit6, l := unit6 } else .error 8
def saveX (p : PS) (A : List V) : Ex PS := if 8 ≤ p.saved.length then .error 10 else if A.length = 0 then .ok { p with saved := p.saved ++ [p.now] } else .error 8
def takeX (p : PS) (A : List V) : Ex PS := match p.saved.getLast? with
  | none => .error 10
  | some s => if A.length = 0 then .ok { p with now := s, saved := p.saved.dropLast } else .error 8
theorem PAt.itl {K : Pk} {w : World} {p : PS} {tS tG : Value} (h : PAt K w p tS tG) (on : Bool) (m n : M6) : PAt K (((((((((((((w.setCell ⟨K.P, 21, none⟩ (.bool on)).setCell ⟨K.P, 22, none⟩ (.int .i64 m.a)).setCell ⟨K.P, 23, none⟩ (.int .i64 m.b)).setCell ⟨K.P, 24, none⟩ (.int .i64 m.c)).setCell ⟨K.P, 25, none⟩ (.int .i64 m.d)).setCell ⟨K.P, 26, none⟩ (.int .i64 m.e)).setCell ⟨K.P, 27, none⟩ (.int .i64 m.f)).setCell ⟨K.P, 28, none⟩ (.int .i64 n.a)).setCell ⟨K.P, 29, none⟩ (.int .i64 n.b)).setCell ⟨K.P, 30, none⟩ (.int .i64 n.c)).setCell ⟨K.P, 31, none⟩ (.int .i64 n.d)).setCell ⟨K.P, 32, none⟩ (.int .i64 n.e)).setCell ⟨K.P, 33, none⟩ (.int .i64 n.f)) { p with inn := on, t := m, l := n } tS tG :=
  h.sets 21 [.bool on, (.int .i64 m.a), (.int .i64 m.b), (.int .i64 m.c), (.int .i64 m.d), (.int .i64 m.e), (.int .i64 m.f), (.int .i64 n.a), (.int .i64 n.b), (.int .i64 n.c), (.int .i64 n.d), (.int .i64 n.e), (.int .i64 n.f)] { p with inn := on, t := m, l := n } rfl rfl rfl
set_option maxHeartbeats 4000000 in
theorem turnText_says (K : Pk) (p : PS) (tS tG : Value) (on : Bool) (A : List V) (a : Option Addr) (c : Nat) (w : World) (hP : PAt K w p tS tG) (hA : A.length ≤ maxLen) :
    Calls Tryz.prog 44 #[.pointer (some ⟨K.P, 0, none⟩), .bool on, .slice a A.length c] w fun e w' => PRes K e w' (turnX p on A) := by
  unfold maxLen at hA
  have HP := hid hP
  have c21 := hP.c 21
  simp at c21
  have zP := hP.at_.lt
  have HU := hid unit_any
  clear hP
  by_cases h1 : p.inn = on
  · have this : turnX p on A = .error 10 := by unfold turnX; rw [if_pos h1]
    rw [this]
    rw [h1] at c21
    clear this
    go_enter Tryz.func44, Tryz.ntmps44
    go_wp2_with fail
    (go_ret; exact PRes.err rfl HP.out.keep)
  · have e1 : (p.inn == on) = false := by simpa using h1
    by_cases h0 : A.length = 0
    · have this : turnX p on A = .ok { p with inn := on, t := unit6, l := unit6 } := by unfold turnX; rw [if_neg h1, if_pos h0]
      rw [this, h0]
      clear this
      have rf := HP.out.at_.free
      go_enter Tryz.func44, Tryz.ntmps44
      go_wp2_with (go_at_call 34; fail)
      go_at_call 34
      refine (HU.out _).mono ?_
      rintro e w1 ⟨rfl, hb1⟩
      have P1 := hid (HP.out.later hb1)
      clear HP rf c21 zP hb1
      go_wp2_with (go_at_call 34; fail)
      go_at_call 34
      refine (HU.out _).mono ?_
      rintro e w2 ⟨rfl, hb2⟩
      have P2 := hid (P1.out.later hb2)
      clear P1 hb2
      have rf := P2.out.at_.free
      have zP := P2.out.at_.lt
      have d21 := P2.out.c 21
      have d22 := P2.out.c 22
      have d23 := P2.out.c 23
      have d24 := P2.out.c 24
      have d25 := P2.out.c 25
      have d26 := P2.out.c 26
      have d27 := P2.out.c 27
      have d28 := P2.out.c 28
      have d29 := P2.out.c 29
      have d30 := P2.out.c 30
      have d31 := P2.out.c 31
      have d32 := P2.out.c 32
      have d33 := P2.out.c 33
      simp at d21 d22 d23 d24 d25 d26 d27 d28 d29 d30 d31 d32 d33
      go_wp2_with fail
      first
        | (go_ret; exact PRes.done rfl (P2.out.itl on unit6 unit6))
    · have this : turnX p on A = .error 8 := by unfold turnX; rw [if_neg h1, if_neg h0]
      rw [this]
      have h2 : (0 : Int) < A.length := by omega
      clear this
      go_enter Tryz.func44, Tryz.ntmps44
      go_wp2_with fail
      go_ret
      exact PRes.err rfl HP.out.keep
end Go.Proofs.YtobpidmlgldnmaaGreatDoor

/-
  A painter: states are saved.
-/
namespace Go.Proofs.YtobpidmlgldnmaaGreatDoor
open Go.RowKit
set_option maxRecDepth 100000

theorem infoSt : (Tryz.prog.info? 76).map (fun i => (i.zero, i.size, i.bytes)) = some (some (.agg #[.int .i64 0, .int .i64 0, .int .i64 0, .int .i64 0, .int .i64 0, .int .i64 0, .bool false, .map none, .int .i64 0, .map none, .slice none 0 0, .bool false, .int .i64 0, .int .i64 0, .int .i64 0, .int .i64 0, .int .i64 0, .int .i64 0]), 18, 160) := by kernel_rfl
theorem flatS_snoc (l : List StP) (s : StP) : flatS (l ++ [s]) = flatS l ++ s.cs := by simp [flatS]
/-- One more state is saved. -/
theorem PAt.pushS {K : Pk} {w w2 : World} {p : PS} {tS tG v' : Value} {o : Obj} (h : PAt K w p tS tG) (hown : w2.ownsRow K.B 76 18 v' (p.saved.length + 1) (flatS p.saved ++ p.now.cs)) (hg : (w.alloc o).drew.grownBy w2 tS.ownBlock) (hat : v'.ownBlock = tS.ownBlock ∨ v'.ownBlock = some (w.alloc o).drew.heap.size) :
    PAt K (w2.setCell ⟨K.P, 20, none⟩ v') { p with saved := p.saved ++ [p.now] } v' tG := by
  have h1 := (h.alloc o).drew
  generalize (w.alloc o).drew = wa at h1 hg hat
  have hne : some K.P ≠ tS.ownBlock := fun e => by have := (h1.ownS.lt K.P e.symm).1; have := h1.lt; omega
  have hA : At w2 K.P 79 (p.cs K.fm K.sm tS tG) := (hg.block K.P h1.at_.lt hne).trans h1.at_
  have kb : KeepBut K.P w2 (w2.setCell ⟨K.P, 20, none⟩ v') := (KeepBut.refl _ _).set 20 _
  have kg : w2.grownBy (w2.setCell ⟨K.P, 20, none⟩ v') (some K.P) := ⟨kb.os, kb.tape, kb.output, kb.size, fun i hi hn => kb.block i hi (fun e => hn (by rw [e]))⟩
  refine ⟨heap_setCell_same w2 K.P 20 _ _ _ hA, h.le, h.lt, Nat.le_trans h1.bl (Nat.le_trans hg.size kb.size), ?_, ?_, ?_, ?_, fun i hi hn => ((kb.block i (Nat.lt_of_lt_of_le hi (Nat.le_trans h1.bl hg.size)) hn).trans (hg.block i (Nat.lt_of_lt_of_le hi h1.bl) (fun e => by have := (h1.ownS.lt i e.symm).1; omega))).trans (h1.fix i hi hn)⟩
  · exact kb.below (h1.keep.grown hg h1.keep.size (fun j hj => by have := (h1.ownS.lt j hj).1; have := h.le; have := h.lt; omega)) h.le
  · rw [flatS_snoc, List.length_append]
    exact World.ownsRow.kept hown kg (.inr fun e => by have := (hown.lt K.P e).1; have := h.lt; omega)
  · have q : w2.ownsRow K.B 48 10 tG p.out.length (flatG p.out) := World.ownsRow.kept h1.ownG hg (by
      cases ht : tG.ownBlock with
      | none => exact .inl rfl
      | some g => exact .inr fun e => h1.apart g e.symm ht)
    exact World.ownsRow.kept q kg (.inr fun e => by have := (q.lt K.P e).1; have := h.lt; omega)
  · intro g e1 e2
    rcases hat with q | q
    · exact h1.apart g (q.symm.trans e1) e2
    · rw [e1] at q
      injection q with q
      have := (h1.ownG.lt g e2).2
      omega
theorem one_cs (s : StP) (h0 : s.x.mw.oneCell' = true) (h1 : s.x.mn.oneCell' = true) (h2 : s.x.sl.oneCell' = true) : ∀ u ∈ s.cs, u.oneCell' = true := by
  intro u hu
  simp only [StP.cs, List.mem_cons, List.not_mem_nil, or_false] at hu
  rcases hu with rfl | rfl | rfl | rfl | rfl | rfl | rfl | rfl | rfl | rfl | rfl | rfl | rfl | rfl | rfl | rfl | rfl | rfl <;> first | rfl | assumption
/-- A font's cells are one cell each. -/
def FnC.one (x : FnC) : Prop := x.mw.oneCell' = true ∧ x.mn.oneCell' = true ∧ x.sl.oneCell' = true
set_option maxHeartbeats 4000000 in
theorem save_says (K : Pk) (p : PS) (tS tG : Value) (A : List V) (a : Option Addr) (c : Nat) (w : World) (hP : PAt K w p tS tG) (hA : A.length ≤ maxLen) (hx : p.now.x.one) :
    Calls Tryz.prog 41 #[.pointer (some ⟨K.P, 0, none⟩), .slice a A.length c] w fun e w' => PRes K e w' (saveX p A) := by
  unfold maxLen at hA
  have HP := hid hP
  have c20 := hP.c 20
  simp at c20
  have zP := hP.at_.lt
  obtain ⟨aS, cS, rfl⟩ : ∃ a c, tS = .slice a p.saved.length c := by
    rcases hP.ownS.2 with ⟨rfl, h0⟩ | ⟨g, cap, cur, rfl, _⟩
    · exact ⟨none, 0, by rw [h0]⟩
    · exact ⟨_, cap, rfl⟩
  clear hP
  by_cases h1 : 8 ≤ p.saved.length
  · have this : saveX p A = .error 10 := by unfold saveX; rw [if_pos h1]
    rw [this]
    have h2 : (8 : Int) ≤ p.saved.length := by omega
    clear this
    go_enter Tryz.func41, Tryz.ntmps41
    go_wp2_with fail
    go_ret
    exact PRes.err rfl HP.out.keep
  · have h2 : ¬ (8 : Int) ≤ p.saved.length := by omega
    by_cases h0 : A.length = 0
    · have this : saveX p A = .ok { p with saved := p.saved ++ [p.now] } := by unfold saveX; rw [if_neg h1, if_pos h0]
      rw [this, h0]
      clear this
      have rf := HP.out.at_.free
      have e2 := HP.out.c 2
      have e3 := HP.out.c 3
      have e4 := HP.out.c 4
      have e5 := HP.out.c 5
      have e6 := HP.out.c 6
      have e7 := HP.out.c 7
      have e8 := HP.out.c 8
      have e9 := HP.out.c 9
      have e10 := HP.out.c 10
      have e11 := HP.out.c 11
      have e12 := HP.out.c 12
      have e13 := HP.out.c 13
      have e14 := HP.out.c 14
      have e15 := HP.out.c 15
      have e16 := HP.out.c 16
      have e17 := HP.out.c 17
      have e18 := HP.out.c 18
      have e19 := HP.out.c 19
      simp at e2 e3 e4 e5 e6 e7 e8 e9 e10 e11 e12 e13 e14 e15 e16 e17 e18 e19
      go_enter Tryz.func41, Tryz.ntmps41
      go_wp2_with fail
      obtain ⟨iV, hiV, hv0, hv1, hv2⟩ := info_parts infoSt
      have HO := hid (one_cs p.now hx.1 hx.2.1 hx.2.2)
      go_region_law ((refine stepOwn (by rfl) (.tmp 20) (.tmp 25) 77 (by rfl) K.B 76 iV _ 18 160 Tryz.underlying77 hiV hv0 hv1 hv2 rfl (by decide) _ _ _ (by rfl) (HP.out.ownS.alloc _) ⟨w.heap.size, 0, none⟩ 1 1 p.now.cs (by rfl) (by rfl) (fun j u hj => news_at rfl j u hj) HO.out (by unfold maxLen; omega) (by omega) (by have := HP.out.bl; simp; omega) ?_; intro v' w2 hown2 hg2 hat2; obtain ⟨a', c', rfl⟩ := own_sliceO hown2; (have P2 := hid (HP.out.pushS hown2 hg2 hat2)); (have A2 := HP.out.at_.grown HP.out.lt HP.out.ownS hg2); (have d20 := A2.cell 20); (have e20 := A2.free 20); (have z2 := A2.lt); simp at d20))
      all_goals
        go_wp2_with fail
        go_ret
        exact PRes.done rfl P2.out
    · have this : saveX p A = .error 8 := by unfold saveX; rw [if_neg h1, if_neg h0]
      rw [this]
      have h3 : (0 : Int) < A.length := by omega
      clear this
      go_enter Tryz.func41, Tryz.ntmps41
      go_wp2_with fail
      go_ret
      exact PRes.err rfl HP.out.keep
end Go.Proofs.YtobpidmlgldnmaaGreatDoor

/-
  A painter: what a step leaves as it was.
-/
namespace Go.Proofs.YtobpidmlgldnmaaGreatDoor
open Go.RowKit
set_option maxRecDepth 100000

/-- All that was there is as it was, but for a block, and a row that grew. -/
def KeepG (P : Nat) (t : Value) (w w' : World) : Prop := w.heap.size ≤ w'.heap.size ∧ ∀ i, i < w.heap.size → i ≠ P → t.ownBlock ≠ some i → w'.heap[i]? = w.heap[i]?
theorem KeepG.of {P : Nat} {t : Value} {w w' : World} (h : Below w.heap.size w w') : KeepG P t w w' := ⟨h.size, fun i hi _ _ => h.block i hi⟩
theorem KeepG.later {P : Nat} {t : Value} {w a b : World} (h : KeepG P t w a) (k : Below a.heap.size a b) : KeepG P t w b :=
  ⟨Nat.le_trans h.1 k.size, fun i hi hp hn => (k.block i (Nat.lt_of_lt_of_le hi h.1)).trans (h.2 i hi hp hn)⟩
theorem KeepG.but {P : Nat} {t : Value} {w a b : World} (h : KeepG P t w a) (k : KeepBut P a b) : KeepG P t w b :=
  ⟨Nat.le_trans h.1 k.size, fun i hi hp hn => (k.block i (Nat.lt_of_lt_of_le hi h.1) hp).trans (h.2 i hi hp hn)⟩
theorem KeepG.push {P : Nat} {t v : Value} {w a b : World} {o : Obj} {z : Nat} (h : Below w.heap.size w a) (hg : (a.alloc o).drew.grownBy b t.ownBlock) : KeepG P t w (b.setCell ⟨P, z, none⟩ v) := by
  have hs : a.heap.size ≤ b.heap.size := by
    have := hg.size
    have q : (a.alloc o).drew.heap.size = a.heap.size + 1 := by show (a.alloc o).heap.size = _; simp
    omega
  refine KeepG.but (a := b) ⟨Nat.le_trans h.size hs, fun i hi hp hn => ?_⟩ ((KeepBut.refl _ _).set z v)
  rw [hg.block i (by show i < (a.alloc o).heap.size; have := h.size; simp; omega) (fun e => hn e.symm)]
  show (a.alloc o).heap[i]? = _
  rw [heap_alloc_old _ _ (by have := h.size; omega)]
  exact h.block i hi
/-- The row that grew is the one that it was, or new. -/
def NewG (w : World) (t t' : Value) : Prop := t'.ownBlock = t.ownBlock ∨ ∃ g, t'.ownBlock = some g ∧ w.heap.size ≤ g
theorem NewG.trans {w a : World} {t t' t'' : Value} (h : NewG w t t') (k : NewG a t' t'') (hs : w.heap.size ≤ a.heap.size) : NewG w t t'' := by
  rcases k with k | ⟨g, k, hk⟩
  · rcases h with h | ⟨g, h, hh⟩
    · exact .inl (k.trans h)
    · exact .inr ⟨g, k.trans h, hh⟩
  · exact .inr ⟨g, k, by omega⟩
theorem KeepG.trans {P : Nat} {t t' : Value} {w a b : World} (h : KeepG P t w a) (hn : NewG w t t') (k : KeepG P t' a b) : KeepG P t w b :=
  ⟨Nat.le_trans h.1 k.1, fun i hi hp hx => (k.2 i (Nat.lt_of_lt_of_le hi h.1) hp (fun e => by
    rcases hn with q | ⟨g, q, hg⟩
    · exact hx (q.symm.trans e)
    · rw [q] at e; injection e with e; omega)).trans (h.2 i hi hp hx)⟩
/-- What shows something answers. -/
def GRes (K : Pk) (w : World) (tG : Value) (e : Ending) (w' : World) (r : Ex PS) : Prop := match r with
  | .ok p => e = .returned .nilIface ∧ ∃ tS' tG', PAt K w' p tS' tG' ∧ KeepG K.P tG w w' ∧ NewG w tG tG'
  | .error k => e = .returned (errV k) ∧ Below K.w0.heap.size K.w0 w'
theorem GRes.pres {K : Pk} {w : World} {tG : Value} {e : Ending} {w' : World} {r : Ex PS} (h : GRes K w tG e w' r) : PRes K e w' r := by
  cases r with
  | ok p => obtain ⟨h1, a, b, h2, _⟩ := h; exact ⟨h1, a, b, h2⟩
  | error k => exact h
theorem GRes.ret {K : Pk} {w : World} {tG : Value} {e : Ending} {w' : World} {r : Ex PS} (h : GRes K w tG e w' r) : ∃ v, e = .returned v := h.pres.ret
theorem GRes.err {K : Pk} {w : World} {tG : Value} {e : Ending} {w' : World} {k : Int} (h : e = .returned (.iface 68 (.int .i64 k))) (hb : Below K.w0.heap.size K.w0 w') : GRes K w tG e w' (.error k) := ⟨h, hb⟩
def TRes (K : Pk) (w : World) (tS tG : Value) (e : Ending) (w' : World) (r : Ex PS) : Prop := match r with
  | .ok p => e = .returned .nilIface ∧ PAt K w' p tS tG ∧ KeepBut K.P w w'
  | .error k => e = .returned (errV k) ∧ Below K.w0.heap.size K.w0 w'
theorem TRes.ret {K : Pk} {w : World} {tS tG : Value} {e : Ending} {w' : World} {r : Ex PS} (h : TRes K w tS tG e w' r) : ∃ v, e = .returned v := by
  cases r with
  | ok p => exact ⟨_, h.1⟩
  | error k => exact ⟨_, h.1⟩
theorem TRes.gres {K : Pk} {w a : World} {tS tG t0 : Value} {e : Ending} {w' : World} {r : Ex PS} (h : TRes K a tS tG e w' r) (k : KeepG K.P t0 w a) (hn : NewG w t0 tG) : GRes K w t0 e w' r := by
  cases r with
  | ok p => exact ⟨h.1, tS, tG, h.2.1, k.but h.2.2, hn⟩
  | error k => exact h
set_option maxHeartbeats 2000000 in
theorem textAlong_keeps (K : Pk) (p : PS) (tS tG : Value) (x : Int) (w : World) (hP : PAt K w p tS tG) :
    Calls Tryz.prog 107 #[.pointer (some ⟨K.P, 0, none⟩), .int .i64 x] w fun e w' => TRes K w tS tG e w' (textX p x) := by
  have HA := hid (along_says x 0 p.t)
  have c22 := hP.c 22
  have c23 := hP.c 23
  have c24 := hP.c 24
  have c25 := hP.c 25
  have c26 := hP.c 26
  have c27 := hP.c 27
  simp at c22 c23 c24 c25 c26 c27
  have z0 := hP.at_.lt
  have HP := hid hP
  clear hP
  obtain ⟨r, hr⟩ : ∃ r, alongX x 0 p.t = r := ⟨_, rfl⟩
  have HR := hid hr
  have hl : textX p x = r.bind fun m => .ok { p with t := m } := by unfold textX; rw [hr]
  rw [hl]
  clear hl hr
  go_enter Tryz.func107, Tryz.ntmps107
  go_wp2_with (go_at_call 86; fail)
  go_at_call 86
  refine (HA.out _).mono ?_
  rintro e w1 ⟨hm, hb1⟩
  rw [HR.out] at hm
  have P1 := hid (HP.out.later hb1)
  have B1 := hid hb1
  have rf := P1.out.at_.free
  have d22 := P1.out.c 22
  have d23 := P1.out.c 23
  have d24 := P1.out.c 24
  have d25 := P1.out.c 25
  have d26 := P1.out.c 26
  have d27 := P1.out.c 27
  simp at d22 d23 d24 d25 d26 d27
  have z1 := P1.out.at_.lt
  clear hb1 HP HR HA c22 c23 c24 c25 c26 c27 z0
  rcases matA_cases hm with ⟨m', rfl, rfl⟩ | ⟨k, rfl, rfl⟩
  · clear hm
    go_wp2_with fail
    go_ret
    exact ⟨rfl, (P1.out.tt m').alloc _, ((KeepBut.of B1.out).setCells (o := 22) (vs := [.int .i64 m'.a, .int .i64 m'.b, .int .i64 m'.c, .int .i64 m'.d, .int .i64 m'.e, .int .i64 m'.f])).trans (.of ((Below.refl _ _).alloc (Nat.le_refl _) _))⟩
  · clear hm
    go_wp2_with fail
    go_ret
    exact ⟨rfl, ((P1.out.tt zero6).alloc _).keep⟩
end Go.Proofs.YtobpidmlgldnmaaGreatDoor
