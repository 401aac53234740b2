/-
  Joined: Ic, Id, Il.
-/
import Derived.Test.YtobpidmlgldnmaaGreatDoorIb
import Derived.Deep.RegionHeld3

/-
  A painter moves: lines, what is shown next.
-/
namespace Go.Proofs.YtobpidmlgldnmaaGreatDoor
open Go.RowKit
set_option maxRecDepth 100000

def putC : Array Value → Nat → List Value → Array Value
  | cs, _, [] => cs
  | cs, o, v :: r => putC (cs.setIfInBounds o v) (o + 1) r
theorem At.setCells {b : Nat} {t : TypeId} : ∀ {vs : List Value} {w : World} {cs : Array Value} {o : Nat}, At w b t cs → At (w.setCells b o vs) b t (putC cs o vs)
  | [], _, _, _, h => h
  | v :: r, w, cs, o, h => by
    have h1 : At (w.setCell ⟨b, o, none⟩ v) b t (cs.setIfInBounds o v) := heap_setCell_same w b o _ _ _ h
    rw [World.setCells]
    exact h1.setCells
theorem KeepBut.setCells {P : Nat} : ∀ {vs : List Value} {a b : World} {o : Nat}, KeepBut P a b → KeepBut P a (b.setCells P o vs)
  | [], _, _, _, h => h
  | v :: r, a, b, o, h => by
    rw [World.setCells]
    exact (h.set o v).setCells
theorem At.there {w : World} {b : Nat} {t : TypeId} {cs : Array Value} (h : At w b t cs) {o n : Nat} (hn : o + n ≤ cs.size) : w.there b o n := fun j hj => by
  refine ⟨?_, h.free _⟩
  rw [h.cell, Array.getElem?_eq_getElem (by omega)]; rfl
theorem below6 {B : Nat} {a w : World} (h : Below B a w) {b : Nat} (hb : B ≤ b) (v0 v1 v2 v3 v4 v5 : Value) : Below B a ((((((w.setCell ⟨b, 0, none⟩ v0).setCell ⟨b, 1, none⟩ v1).setCell ⟨b, 2, none⟩ v2).setCell ⟨b, 3, none⟩ v3).setCell ⟨b, 4, none⟩ v4).setCell ⟨b, 5, none⟩ v5) :=
  (((((h.setCell (p := ⟨b, 0, none⟩) hb _).setCell (p := ⟨b, 1, none⟩) hb _).setCell (p := ⟨b, 2, none⟩) hb _).setCell (p := ⟨b, 3, none⟩) hb _).setCell (p := ⟨b, 4, none⟩) hb _).setCell (p := ⟨b, 5, none⟩) hb _
theorem matA_cases {e : Ending} {r : Ex M6} (h : MatA e r) : (∃ m, r = .ok m ∧ e = .returned (.tuple #[.agg #[.int .i64 m.a, .int .i64 m.b, .int .i64 m.c, .int .i64 m.d, .int .i64 m.e, .int .i64 m.f], .nilIface])) ∨ (∃ k, r = .error k ∧ e = .returned (.tuple #[.agg #[.int .i64 0, .int .i64 0, .int .i64 0, .int .i64 0, .int .i64 0, .int .i64 0], .iface 68 (.int .i64 k)])) := by
  cases r with
  | ok m => exact .inl ⟨m, rfl, h⟩
  | error k => exact .inr ⟨k, rfl, h⟩
theorem concat_x (m n : M6) (w : World) :
    Calls Tryz.prog 70 #[.agg #[.int .i64 m.a, .int .i64 m.b, .int .i64 m.c, .int .i64 m.d, .int .i64 m.e, .int .i64 m.f], .agg #[.int .i64 n.a, .int .i64 n.b, .int .i64 n.c, .int .i64 n.d, .int .i64 n.e, .int .i64 n.f]] w fun e w' => MatA e (conX m n) ∧ Below w.heap.size w w' := by
  refine (concat_any m.a m.b m.c m.d m.e m.f n.a n.b n.c n.d n.e n.f w).mono ?_
  rintro e w' ⟨rfl, hb⟩
  refine ⟨?_, hb⟩
  cases hc : conX m n with
  | ok r =>
    obtain ⟨h0, hv⟩ := con_ok hc
    rw [h0, hv]; rfl
  | error k =>
    obtain ⟨rfl, h0, hv⟩ := con_err hc
    rw [h0, hv]; rfl
set_option maxHeartbeats 1000000 in
theorem along_says (x y : Int) (m : M6) (w : World) :
    Calls Tryz.prog 86 #[.int .i64 x, .int .i64 y, .agg #[.int .i64 m.a, .int .i64 m.b, .int .i64 m.c, .int .i64 m.d, .int .i64 m.e, .int .i64 m.f]] w fun e w' => MatA e (alongX x y m) ∧ Below w.heap.size w w' := by
  have HU := hid unit_any
  have HC := hid (concat_x ⟨1000, 0, 0, 1000, x, y⟩ m)
  obtain ⟨r, hr⟩ : ∃ r, alongX x y m = r := ⟨_, rfl⟩
  have HC2 := hid (show conX ⟨1000, 0, 0, 1000, x, y⟩ m = r from hr)
  rw [hr]
  clear hr
  go_enter Tryz.func86, Tryz.ntmps86
  go_wp2_with (go_at_call 34; fail)
  go_at_call 34
  refine (HU.out _).mono ?_
  rintro e w1 ⟨rfl, hb1⟩
  have A1 := At.later ((At.new w #[.int .i64 m.a, .int .i64 m.b, .int .i64 m.c, .int .i64 m.d, .int .i64 m.e, .int .i64 m.f] 74 rfl).alloc _) hb1
  have R1 := At.later (At.new (w.alloc (.cells #[.int .i64 m.a, .int .i64 m.b, .int .i64 m.c, .int .i64 m.d, .int .i64 m.e, .int .i64 m.f] 74)) #[.int .i64 0, .int .i64 0, .int .i64 0, .int .i64 0, .int .i64 0, .int .i64 0] 74 (b := w.heap.size + 1) (by simp)) hb1
  have B1 : Below w.heap.size w w1 := chn0 (by go_grown) hb1
  have z1 := R1.lt
  have z0 := A1.lt
  have k0 := A1.cell 0
  have k1 := A1.cell 1
  have k2 := A1.cell 2
  have k3 := A1.cell 3
  have k4 := A1.cell 4
  have k5 := A1.cell 5
  simp at k0 k1 k2 k3 k4 k5
  clear hb1 HU A1
  go_wp2_with (go_at_call 70; fail)
  go_at_call 70
  refine (HC.out _).mono ?_
  rintro e w2 ⟨hm, hb2⟩
  rw [HC2.out] at hm
  have R2 := At.later (R1.alloc _) hb2
  have B2 : Below w.heap.size w w2 := chn0 (B1.alloc B1.size _) hb2
  have z2 := R2.lt
  have rc := R2.cell
  have rf := R2.free
  clear hb2 HC HC2 R1 B1 k0 k1 k2 k3 k4 k5 z0 z1
  rcases matA_cases hm with ⟨m', rfl, rfl⟩ | ⟨k, rfl, rfl⟩
  · clear hm
    go_wp2_with fail
    refine bodyPost_ret (v := .tuple #[.agg m'.cs.toArray, .nilIface]) (by simp [results, Tryz.results86, go_sem, M6.cs, rc]) rfl ⟨rfl, below6 B2 (by omega) _ _ _ _ _ _⟩
  · clear hm
    go_wp2_with fail
    refine bodyPost_ret (v := .tuple #[.agg #[.int .i64 0, .int .i64 0, .int .i64 0, .int .i64 0, .int .i64 0, .int .i64 0], errV k]) (by simp [results, Tryz.results86, go_sem, errV, rc]) rfl ⟨rfl, below6 B2 (by omega) _ _ _ _ _ _⟩
theorem PAt.c {K : Pk} {w : World} {p : PS} {tS tG : Value} (h : PAt K w p tS tG) (o : Nat) : w.cell? ⟨K.P, o, none⟩ = (p.cs K.fm K.sm tS tG)[o]? := h.at_.cell o
theorem PRes.err {K : Pk} {e : Ending} {w : World} {k : Int} (h : e = .returned (.iface 68 (.int .i64 k))) (hb : Below K.w0.heap.size K.w0 w) : PRes K e w (.error k) := ⟨h, hb⟩
theorem PRes.done {K : Pk} {e : Ending} {w : World} {p : PS} {tS tG : Value} (h : e = .returned .nilIface) (hb : PAt K w p tS tG) : PRes K e w (.ok p) := ⟨h, _, _, hb⟩
def putL : List Value → Nat → List Value → List Value
  | cs, _, [] => cs
  | cs, o, v :: r => putL (cs.set o v) (o + 1) r
theorem putC_eq : ∀ (vs : List Value) (cs : List Value) (o : Nat), putC cs.toArray o vs = (putL cs o vs).toArray
  | [], cs, o => rfl
  | v :: r, cs, o => by
    show putC (cs.toArray.setIfInBounds o v) (o + 1) r = (putL (cs.set o v) (o + 1) r).toArray
    rw [← putC_eq r (cs.set o v) (o + 1)]
    congr 1
    simp
/-- Cells of the painter's block are written. -/
theorem PAt.sets {K : Pk} {w : World} {p : PS} {tS tG : Value} (h : PAt K w p tS tG) (o : Nat) (vs : List Value) (p' : PS) (hc : putL (p.cs K.fm K.sm tS tG).toList o vs = (p'.cs K.fm K.sm tS tG).toList) (hs : p'.saved = p.saved) (ho : p'.out = p.out) : PAt K (w.setCells K.P o vs) p' tS tG := by
  refine h.keepBut (KeepBut.setCells (KeepBut.refl _ _)) ?_ hs ho
  have h1 := h.at_.setCells (vs := vs) (o := o)
  have h2 := putC_eq vs (p.cs K.fm K.sm tS tG).toList o
  rw [hc] at h2
  rw [show p'.cs K.fm K.sm tS tG = putC (p.cs K.fm K.sm tS tG) o vs from h2.symm]
  exact h1
theorem PAt.tl {K : Pk} {w : World} {p : PS} {tS tG : Value} (h : PAt K w p tS tG) (m n : M6) : PAt K ((((((((((((w.setCell ⟨K.P, 22, none⟩ (.int .i64 m.a)).setCell ⟨K.P, 23, none⟩ (.int .i64 m.b)).setCell ⟨K.P, 24, none⟩ (.int .i64 m.c)).setCell ⟨K.P, 25, none⟩ (.int .i64 m.d)).setCell ⟨K.P, 26, none⟩ (.int .i64 m.e)).setCell ⟨K.P, 27, none⟩ (.int .i64 m.f)).setCell ⟨K.P, 28, none⟩ (.int .i64 n.a)).setCell ⟨K.P, 29, none⟩ (.int .i64 n.b)).setCell ⟨K.P, 30, none⟩ (.int .i64 n.c)).setCell ⟨K.P, 31, none⟩ (.int .i64 n.d)).setCell ⟨K.P, 32, none⟩ (.int .i64 n.e)).setCell ⟨K.P, 33, none⟩ (.int .i64 n.f)) { p with t := m, l := n } tS tG :=
  h.sets 22 [.int .i64 m.a, .int .i64 m.b, .int .i64 m.c, .int .i64 m.d, .int .i64 m.e, .int .i64 m.f, .int .i64 n.a, .int .i64 n.b, .int .i64 n.c, .int .i64 n.d, .int .i64 n.e, .int .i64 n.f] { p with t := m, l := n } rfl rfl rfl
def zero6 : M6 := ⟨0, 0, 0, 0, 0, 0⟩
theorem PAt.drew {K : Pk} {w : World} {p : PS} {tS tG : Value} (h : PAt K w p tS tG) : PAt K w.drew p tS tG := h.later (Below.refl _ _).drew
theorem PAt.alloc {K : Pk} {w : World} {p : PS} {tS tG : Value} (h : PAt K w p tS tG) (o : Obj) : PAt K (w.alloc o) p tS tG := h.later ((Below.refl _ _).alloc (Nat.le_refl _) o)
set_option maxHeartbeats 2000000 in
theorem lineAlong_says (K : Pk) (p : PS) (tS tG : Value) (x y : Int) (w : World) (hP : PAt K w p tS tG) :
    Calls Tryz.prog 71 #[.pointer (some ⟨K.P, 0, none⟩), .int .i64 x, .int .i64 y] w fun e w' => PRes K e w' (lineX p x y) := by
  have HA := hid (along_says x y p.l)
  have k0 := hP.c 28
  have k1 := hP.c 29
  have k2 := hP.c 30
  have k3 := hP.c 31
  have k4 := hP.c 32
  have k5 := hP.c 33
  simp at k0 k1 k2 k3 k4 k5
  have z0 := hP.at_.lt
  have HP := hid hP
  clear hP
  obtain ⟨r, hr⟩ : ∃ r, alongX x y p.l = r := ⟨_, rfl⟩
  have HR := hid hr
  have hl : lineX p x y = r.bind fun m => .ok { p with t := m, l := m } := by unfold lineX; rw [hr]
  rw [hl]
  clear hl hr
  go_enter Tryz.func71, Tryz.ntmps71
  go_wp2_with (go_at_call 86; fail)
  go_at_call 86
  refine (HA.out _).mono ?_
  rintro e w1 ⟨hm, hb1⟩
  rw [HR.out] at hm
  have P1 := hid (HP.out.later hb1)
  have rf := P1.out.at_.free
  have c0 := P1.out.c 22
  have c1 := P1.out.c 23
  have c2 := P1.out.c 24
  have c3 := P1.out.c 25
  have c4 := P1.out.c 26
  have c5 := P1.out.c 27
  have d0 := P1.out.c 28
  have d1 := P1.out.c 29
  have d2 := P1.out.c 30
  have d3 := P1.out.c 31
  have d4 := P1.out.c 32
  have d5 := P1.out.c 33
  have z1 := P1.out.at_.lt
  simp at c0 c1 c2 c3 c4 c5 d0 d1 d2 d3 d4 d5
  clear hb1 HP HR HA k0 k1 k2 k3 k4 k5 z0
  rcases matA_cases hm with ⟨m', rfl, rfl⟩ | ⟨k, rfl, rfl⟩
  · clear hm
    go_wp2_with fail
    go_region
    go_wp2_with fail
    go_ret
    exact PRes.done rfl ((P1.out.tl m' m').alloc _).drew
  · clear hm
    go_wp2_with fail
    go_region
    go_wp2_with fail
    go_ret
    exact PRes.err rfl ((P1.out.tl zero6 zero6).alloc _).drew.keep
end Go.Proofs.YtobpidmlgldnmaaGreatDoor

/-
  A painter moves: what is shown next, lines, the page.
-/
namespace Go.Proofs.YtobpidmlgldnmaaGreatDoor
open Go.RowKit
set_option maxRecDepth 100000

theorem PAt.tt {K : Pk} {w : World} {p : PS} {tS tG : Value} (h : PAt K w p tS tG) (m : M6) : PAt K ((((((w.setCell ⟨K.P, 22, none⟩ (.int .i64 m.a)).setCell ⟨K.P, 23, none⟩ (.int .i64 m.b)).setCell ⟨K.P, 24, none⟩ (.int .i64 m.c)).setCell ⟨K.P, 25, none⟩ (.int .i64 m.d)).setCell ⟨K.P, 26, none⟩ (.int .i64 m.e)).setCell ⟨K.P, 27, none⟩ (.int .i64 m.f)) { p with t := m } tS tG :=
  h.sets 22 [(.int .i64 m.a), (.int .i64 m.b), (.int .i64 m.c), (.int .i64 m.d), (.int .i64 m.e), (.int .i64 m.f)] { p with t := m } rfl rfl rfl
theorem PAt.mm {K : Pk} {w : World} {p : PS} {tS tG : Value} (h : PAt K w p tS tG) (m : M6) : PAt K ((((((w.setCell ⟨K.P, 2, none⟩ (.int .i64 m.a)).setCell ⟨K.P, 3, none⟩ (.int .i64 m.b)).setCell ⟨K.P, 4, none⟩ (.int .i64 m.c)).setCell ⟨K.P, 5, none⟩ (.int .i64 m.d)).setCell ⟨K.P, 6, none⟩ (.int .i64 m.e)).setCell ⟨K.P, 7, none⟩ (.int .i64 m.f)) { p with now := { p.now with m := m } } tS tG :=
  h.sets 2 [(.int .i64 m.a), (.int .i64 m.b), (.int .i64 m.c), (.int .i64 m.d), (.int .i64 m.e), (.int .i64 m.f)] { p with now := { p.now with m := m } } rfl rfl rfl
theorem PAt.ld {K : Pk} {w : World} {p : PS} {tS tG : Value} (h : PAt K w p tS tG) (z : Int) : PAt K (w.setCell ⟨K.P, 18, none⟩ (.int .i64 z)) { p with now := { p.now with lead := z } } tS tG :=
  h.sets 18 [.int .i64 z] { p with now := { p.now with lead := z } } rfl rfl rfl
theorem PRes.ret {K : Pk} {e : Ending} {w : World} {r : Ex PS} (h : PRes K e w r) : ∃ v, e = .returned v := by
  cases r with
  | ok p => exact ⟨_, h.1⟩
  | error k => exact ⟨_, h.1⟩
def textX (p : PS) (x : Int) : Ex PS := (alongX x 0 p.t).bind fun t => .ok { p with t := t }
def pairX (A : List V) : Ex (Int × Int) := match numsX A 2 with
  | .ok [x, y] => .ok (x, y)
  | .ok _ => .error 8
  | .error k => .error k
def moveX (p : PS) (A : List V) : Ex PS := (pairX A).bind fun q => lineX p q.1 q.2
def leadX (p : PS) (A : List V) : Ex PS := (pairX A).bind fun q => lineX { p with now := { p.now with lead := wrap64 (-q.2) } } q.1 q.2
def putX (p : PS) (A : List V) : Ex PS := (matX A).bind fun m => .ok { p with t := m, l := m }
def nextX (p : PS) (A : List V) : Ex PS := if A.length = 0 then lineX p 0 (wrap64 (-p.now.lead)) else .error 8
def pageX (p : PS) (A : List V) : Ex PS := (matX A).bind fun m => (conX m p.now.m).bind fun m => .ok { p with now := { p.now with m := m } }
set_option maxHeartbeats 2000000 in
theorem textAlong_says (K : Pk) (p : PS) (tS tG : Value) (x : Int) (w : World) (hP : PAt K w p tS tG) :
    Calls Tryz.prog 107 #[.pointer (some ⟨K.P, 0, none⟩), .int .i64 x] w fun e w' => PRes K e w' (textX p x) := by
  have HA := hid (along_says x 0 p.t)
  have c22 := hP.c 22
  have c23 := hP.c 23
  have c24 := hP.c 24
  have c25 := hP.c 25
  have c26 := hP.c 26
  have c27 := hP.c 27
  simp at c22 c23 c24 c25 c26 c27
  have z0 := hP.at_.lt
  have HP := hid hP
  clear hP
  obtain ⟨r, hr⟩ : ∃ r, alongX x 0 p.t = r := ⟨_, rfl⟩
  have HR := hid hr
  have hl : textX p x = r.bind fun m => .ok { p with t := m } := by unfold textX; rw [hr]
  rw [hl]
  clear hl hr
  go_enter Tryz.func107, Tryz.ntmps107
  go_wp2_with (go_at_call 86; fail)
  go_at_call 86
  refine (HA.out _).mono ?_
  rintro e w1 ⟨hm, hb1⟩
  rw [HR.out] at hm
  have P1 := hid (HP.out.later hb1)
  have rf := P1.out.at_.free
  have d22 := P1.out.c 22
  have d23 := P1.out.c 23
  have d24 := P1.out.c 24
  have d25 := P1.out.c 25
  have d26 := P1.out.c 26
  have d27 := P1.out.c 27
  simp at d22 d23 d24 d25 d26 d27
  have z1 := P1.out.at_.lt
  clear hb1 HP HR HA c22 c23 c24 c25 c26 c27 z0
  rcases matA_cases hm with ⟨m', rfl, rfl⟩ | ⟨k, rfl, rfl⟩
  · clear hm
    go_wp2_with fail
    go_ret
    exact PRes.done rfl ((P1.out.tt m').alloc _)
  · clear hm
    go_wp2_with fail
    go_ret
    exact PRes.err rfl ((P1.out.tt zero6).alloc _).keep
set_option maxHeartbeats 2000000 in
theorem moveLine_says (K : Pk) (p : PS) (tS tG : Value) (d : Nat) (A : List V) (t : Value) (w : World) (hP : PAt K w p tS tG) (hA : ArgsAt d w t A) :
    Calls Tryz.prog 46 #[.pointer (some ⟨K.P, 0, none⟩), t] w fun e w' => PRes K e w' (moveX p A) := by
  have HN := hid (fun W (hB : Below w.heap.size w W) => (numbers_says d A t 2 W (hA.later hB) (by omega) : Calls Tryz.prog 68 #[t, .int .i64 2] W _))
  have HP := hid hP
  have zP := hP.at_.lt
  clear hP hA
  go_enter Tryz.func46, Tryz.ntmps46
  go_wp2_with (go_at_call 68; fail)
  go_at_call 68
  refine (HN.out _ (by go_grown)).mono ?_
  rintro e w1 ⟨hr, hb1⟩
  have P1 := hid (HP.out.later hb1)
  clear HN HP
  rcases nums2 hr with ⟨hq, rfl⟩ | ⟨x, y, g, hq, _, rfl, hg, hgl, k0, k1⟩
  · have this : moveX p A = .error 8 := by unfold moveX pairX; rw [hq]; rfl
    unfold errV
    clear hr
    go_wp2_with fail
    go_ret
    rw [this]
    exact PRes.err rfl P1.out.keep
  · have this : moveX p A = lineX p x y := by unfold moveX pairX; rw [hq]; rfl
    have THIS := hid this
    clear hr hq this
    go_wp2_with fail
    go_region_with (go_at_call 71; refine (lineAlong_says K p tS tG x y _ P1.out.drew).mono ?_; intro e w2 h; obtain ⟨v, rfl⟩ := h.ret)
    all_goals
      first | go_wp2_with fail | skip
      go_ret
      rw [THIS.out]
      exact h
set_option maxHeartbeats 2000000 in
theorem leadLine_says (K : Pk) (p : PS) (tS tG : Value) (d : Nat) (A : List V) (t : Value) (w : World) (hP : PAt K w p tS tG) (hA : ArgsAt d w t A) :
    Calls Tryz.prog 47 #[.pointer (some ⟨K.P, 0, none⟩), t] w fun e w' => PRes K e w' (leadX p A) := by
  have HN := hid (fun W (hB : Below w.heap.size w W) => (numbers_says d A t 2 W (hA.later hB) (by omega) : Calls Tryz.prog 68 #[t, .int .i64 2] W _))
  have HP := hid hP
  have zP := hP.at_.lt
  clear hP hA
  go_enter Tryz.func47, Tryz.ntmps47
  go_wp2_with (go_at_call 68; fail)
  go_at_call 68
  refine (HN.out _ (by go_grown)).mono ?_
  rintro e w1 ⟨hr, hb1⟩
  have P1 := hid (HP.out.later hb1)
  clear HN HP
  rcases nums2 hr with ⟨hq, rfl⟩ | ⟨x, y, g, hq, _, rfl, hg, hgl, k0, k1⟩
  · have this : leadX p A = .error 8 := by unfold leadX pairX; rw [hq]; rfl
    unfold errV
    clear hr
    go_wp2_with fail
    go_ret
    rw [this]
    exact PRes.err rfl P1.out.keep
  · have this : leadX p A = lineX { p with now := { p.now with lead := wrap64 (-y) } } x y := by unfold leadX pairX; rw [hq]; rfl
    have THIS := hid this
    clear hr hq this
    have rf := P1.out.at_.free
    have c18 := P1.out.c 18
    simp at c18
    have z1 := P1.out.at_.lt
    have HL := hid (P1.out.ld (wrap64 (-y)))
    have gP : g ≠ K.P := by omega
    go_wp2_with fail
    go_region_with (go_at_call 71; refine (lineAlong_says K _ tS tG x y _ HL.out.drew).mono ?_; intro e w2 h; obtain ⟨v, rfl⟩ := h.ret)
    all_goals
      first | go_wp2_with fail | skip
      go_ret
      rw [THIS.out]
      exact h
set_option maxHeartbeats 2000000 in
theorem placeLine_says (K : Pk) (p : PS) (tS tG : Value) (d : Nat) (A : List V) (t : Value) (w : World) (hP : PAt K w p tS tG) (hA : ArgsAt d w t A) :
    Calls Tryz.prog 48 #[.pointer (some ⟨K.P, 0, none⟩), t] w fun e w' => PRes K e w' (putX p A) := by
  have HN := hid (fun W (hB : Below w.heap.size w W) => matrix_says d A t W (hA.later hB))
  have HP := hid hP
  clear hP hA
  obtain ⟨r, hr⟩ : ∃ r, matX A = r := ⟨_, rfl⟩
  have HR := hid hr
  have hl : putX p A = r.bind fun m => .ok { p with t := m, l := m } := by unfold putX; rw [hr]
  rw [hl]
  clear hl hr
  go_enter Tryz.func48, Tryz.ntmps48
  go_wp2_with (go_at_call 69; fail)
  go_at_call 69
  refine (HN.out _ (by go_grown)).mono ?_
  rintro e w1 ⟨hm, hb1⟩
  rw [HR.out] at hm
  have P1 := hid (HP.out.later hb1)
  have rf := P1.out.at_.free
  have d22 := P1.out.c 22
  have d23 := P1.out.c 23
  have d24 := P1.out.c 24
  have d25 := P1.out.c 25
  have d26 := P1.out.c 26
  have d27 := P1.out.c 27
  have d28 := P1.out.c 28
  have d29 := P1.out.c 29
  have d30 := P1.out.c 30
  have d31 := P1.out.c 31
  have d32 := P1.out.c 32
  have d33 := P1.out.c 33
  simp at d22 d23 d24 d25 d26 d27 d28 d29 d30 d31 d32 d33
  have z1 := P1.out.at_.lt
  clear hb1 HP HR HN
  rcases matA_cases hm with ⟨m', rfl, rfl⟩ | ⟨k, rfl, rfl⟩
  · clear hm
    go_wp2_with fail
    go_region
    go_wp2_with fail
    go_ret
    exact PRes.done rfl ((P1.out.tl m' m').alloc _).drew
  · clear hm
    go_wp2_with fail
    go_region
    go_wp2_with fail
    go_ret
    exact PRes.err rfl ((P1.out.tl zero6 zero6).alloc _).drew.keep
set_option maxHeartbeats 2000000 in
theorem nextLine_says (K : Pk) (p : PS) (tS tG : Value) (A : List V) (a : Option Addr) (c : Nat) (w : World) (hP : PAt K w p tS tG) (hA : A.length ≤ maxLen) :
    Calls Tryz.prog 49 #[.pointer (some ⟨K.P, 0, none⟩), .slice a A.length c] w fun e w' => PRes K e w' (nextX p A) := by
  unfold maxLen at hA
  have HP := hid hP
  have c18 := hP.c 18
  simp at c18
  have zP := hP.at_.lt
  have HC := hid (lineAlong_says K p tS tG 0 (wrap64 (-p.now.lead)))
  clear hP
  by_cases h0 : A.length = 0
  · have this : nextX p A = lineX p 0 (wrap64 (-p.now.lead)) := by unfold nextX; rw [if_pos h0]
    rw [this, h0]
    clear this
    go_enter Tryz.func49, Tryz.ntmps49
    go_wp2_with (go_at_call 71; refine (HC.out _ HP.out).mono ?_; intro e w2 h; obtain ⟨v, rfl⟩ := h.ret)
    go_ret
    exact h
  · have this : nextX p A = .error 8 := by unfold nextX; rw [if_neg h0]
    rw [this]
    have h1 : (0 : Int) < A.length := by omega
    clear this
    go_enter Tryz.func49, Tryz.ntmps49
    go_wp2_with fail
    go_ret
    exact PRes.err rfl HP.out.keep
set_option maxHeartbeats 2000000 in
theorem movePage_says (K : Pk) (p : PS) (tS tG : Value) (d : Nat) (A : List V) (t : Value) (w : World) (hP : PAt K w p tS tG) (hA : ArgsAt d w t A) :
    Calls Tryz.prog 43 #[.pointer (some ⟨K.P, 0, none⟩), t] w fun e w' => PRes K e w' (pageX p A) := by
  have HN := hid (fun W (hB : Below w.heap.size w W) => matrix_says d A t W (hA.later hB))
  have HP := hid hP
  clear hP hA
  obtain ⟨r, hr⟩ : ∃ r, matX A = r := ⟨_, rfl⟩
  have HR := hid hr
  have hl : pageX p A = r.bind fun m => (conX m p.now.m).bind fun m => .ok { p with now := { p.now with m := m } } := by unfold pageX; rw [hr]
  rw [hl]
  clear hl hr
  go_enter Tryz.func43, Tryz.ntmps43
  go_wp2_with (go_at_call 69; fail)
  go_at_call 69
  refine (HN.out _ (by go_grown)).mono ?_
  rintro e w1 ⟨hm, hb1⟩
  rw [HR.out] at hm
  have P1 := hid (HP.out.later hb1)
  have rf := P1.out.at_.free
  have d2 := P1.out.c 2
  have d3 := P1.out.c 3
  have d4 := P1.out.c 4
  have d5 := P1.out.c 5
  have d6 := P1.out.c 6
  have d7 := P1.out.c 7
  simp at d2 d3 d4 d5 d6 d7
  have z1 := P1.out.at_.lt
  clear hb1 HP HR HN
  rcases matA_cases hm with ⟨m', rfl, rfl⟩ | ⟨k, rfl, rfl⟩
  · clear hm
    have HC := hid (concat_x m' p.now.m)
    go_wp2_with fail
    cases hr : conX m' p.now.m with
    | ok m2 =>
      have HR := hid hr
      go_region_with (go_at_call 70; refine (HC.out _).mono ?_; rintro e w2 ⟨hm, hb2⟩; rw [HR.out] at hm; cases (show e = .returned (.tuple #[.agg #[.int .i64 m2.a, .int .i64 m2.b, .int .i64 m2.c, .int .i64 m2.d, .int .i64 m2.e, .int .i64 m2.f], .nilIface]) from hm); (have P2 := hid ((P1.out.alloc _).drew.later hb2)); (have g2 := P2.out.c 2); (have g3 := P2.out.c 3); (have g4 := P2.out.c 4); (have g5 := P2.out.c 5); (have g6 := P2.out.c 6); (have g7 := P2.out.c 7); (have gf := P2.out.at_.free); (have gz := P2.out.at_.lt); simp at g2 g3 g4 g5 g6 g7)
      all_goals
        go_wp2_with fail
        go_ret
        show PRes _ _ _ ((conX m' p.now.m).bind _)
        rw [HR.out]
        exact PRes.done rfl (P2.out.mm m2)
    | error k =>
      have HR := hid hr
      go_region_with (go_at_call 70; refine (HC.out _).mono ?_; rintro e w2 ⟨hm, hb2⟩; rw [HR.out] at hm; cases (show e = .returned (.tuple #[.agg #[.int .i64 0, .int .i64 0, .int .i64 0, .int .i64 0, .int .i64 0, .int .i64 0], .iface 68 (.int .i64 k)]) from hm); (have P2 := hid ((P1.out.alloc _).drew.later hb2)); (have g2 := P2.out.c 2); (have g3 := P2.out.c 3); (have g4 := P2.out.c 4); (have g5 := P2.out.c 5); (have g6 := P2.out.c 6); (have g7 := P2.out.c 7); (have gf := P2.out.at_.free); (have gz := P2.out.at_.lt); simp at g2 g3 g4 g5 g6 g7)
      all_goals
        go_wp2_with fail
        go_ret
        show PRes _ _ _ ((conX m' p.now.m).bind _)
        rw [HR.out]
        exact PRes.err rfl (P2.out.mm zero6).keep
  · clear hm
    go_wp2_with fail
    go_ret
    exact PRes.err rfl (P1.out.alloc _).keep
end Go.Proofs.YtobpidmlgldnmaaGreatDoor

/-
  A painter: where a glyph stands, and how far behind it the next one.
-/
namespace Go.Proofs.YtobpidmlgldnmaaGreatDoor
open Go.RowKit
set_option maxRecDepth 100000

def NumA (e : Ending) (r : Ex Int) : Prop := match r with
  | .ok z => e = .returned (.tuple #[.int .i64 z, .nilIface])
  | .error k => e = .returned (.tuple #[.int .i64 0, errV k])
theorem numA_cases {e : Ending} {r : Ex Int} (h : NumA e r) : (∃ z, r = .ok z ∧ e = .returned (.tuple #[.int .i64 z, .nilIface])) ∨ (∃ k, r = .error k ∧ e = .returned (.tuple #[.int .i64 0, .iface 68 (.int .i64 k)])) := by
  cases r with
  | ok z => exact .inl ⟨z, rfl, h⟩
  | error k => exact .inr ⟨k, rfl, h⟩
theorem mul_x (a b : Int) (w : World) : Calls Tryz.prog 108 #[.int .i64 a, .int .i64 b] w fun e w' => NumA e (mulX a b) ∧ Below w.heap.size w w' := by
  refine (mul_any a b w).mono ?_
  rintro e w' ⟨rfl, hb⟩
  refine ⟨?_, hb⟩
  unfold mulX
  by_cases h : linE a b 0 0 0 = 0
  · rw [if_pos h, h]; rfl
  · have h1 : linE a b 0 0 0 = 1 := by have := linE_01 a b 0 0 0; omega
    have h2 : linN a b 0 0 0 = 0 := by
      unfold linE at h
      unfold linN
      split
      · rename_i q; rw [if_pos q] at h; exact absurd rfl h
      · rfl
    rw [if_neg h, h1, h2]; rfl
theorem add_x (a b : Int) (w : World) : Calls Tryz.prog 131 #[.int .i64 a, .int .i64 b] w fun e w' => NumA e (addX a b) ∧ Below w.heap.size w w' := by
  refine (add_any a b w).mono ?_
  rintro e w' ⟨rfl, hb⟩
  refine ⟨?_, hb⟩
  unfold addX
  by_cases h : addE a b = 0
  · rw [if_pos h, h]; rfl
  · have h2 : addE a b = 1 ∧ addN a b = 0 := by
      unfold addE at h ⊢
      unfold addN
      split
      · rename_i q; rw [if_pos q] at h; exact absurd rfl h
      · exact ⟨rfl, rfl⟩
    rw [if_neg h, h2.1, h2.2]; rfl
def PtA (e : Ending) (r : Ex (Int × Int)) : Prop := match r with
  | .ok q => e = .returned (.tuple #[.agg #[.int .i64 q.1, .int .i64 q.2], .nilIface])
  | .error k => e = .returned (.tuple #[.agg #[.int .i64 0, .int .i64 0], errV k])
theorem apply_x (m : M6) (x y : Int) (w : World) : Calls Tryz.prog 85 #[.agg #[.int .i64 m.a, .int .i64 m.b, .int .i64 m.c, .int .i64 m.d, .int .i64 m.e, .int .i64 m.f], .agg #[.int .i64 x, .int .i64 y]] w fun e w' => PtA e (appX m x y) ∧ Below w.heap.size w w' := by
  refine (apply_any m.a m.b m.c m.d m.e m.f x y w).mono ?_
  rintro e w' ⟨rfl, hb⟩
  refine ⟨?_, hb⟩
  unfold appX
  by_cases h : apE m.a m.b m.c m.d m.e m.f x y = 0
  · rw [if_pos h, h]; rfl
  · have h1 : apE m.a m.b m.c m.d m.e m.f x y = 1 := by have := apE_01 m.a m.b m.c m.d m.e m.f x y; omega
    have hx : apX m.a m.b m.c m.d m.e m.f x y = 0 := by unfold apX; rw [if_neg h]
    have hy : apY m.a m.b m.c m.d m.e m.f x y = 0 := by unfold apY; rw [if_neg h]
    rw [if_neg h, h1, hx, hy]; rfl
/-- A matrix is loaded, or stored: one step. -/
def getM (p : Value) : Sem Value := Instr.loadAt 74 p
def putM (p v : Value) : Sem Unit := Instr.storeAt 74 p v
theorem getM_at {W : World} {b : Nat} {T : TypeId} {cs : Array Value} (h : At W b T cs) (o : Nat) (m : M6) (hc : ∀ (j : Nat) v, m.cs[j]? = some v → cs[o + j]? = some v) : (getM (.pointer (some ⟨b, o, none⟩))).run Tryz.prog W = .ok (.agg #[.int .i64 m.a, .int .i64 m.b, .int .i64 m.c, .int .i64 m.d, .int .i64 m.e, .int .i64 m.f]) W :=
  run_loadAt_mid W b o 74 m.cs _ (fun j v hv => by rw [h.cell]; exact hc j v hv) Tryz.underlying74 rfl (by kernel_rfl)
theorem putM_at {W : World} {b : Nat} {T : TypeId} {cs : Array Value} (h : At W b T cs) (o : Nat) (ho : o + 6 ≤ cs.size) (m : M6) : (putM (.pointer (some ⟨b, o, none⟩)) (.agg #[.int .i64 m.a, .int .i64 m.b, .int .i64 m.c, .int .i64 m.d, .int .i64 m.e, .int .i64 m.f])).run Tryz.prog W = .ok () (W.setCells b o m.cs) :=
  run_storeAt_mid (P := Tryz.prog) W b o 74 m.cs.toArray (h.there ho) (by kernel_rfl) (by simp [M6.cs, Value.oneCell'])
theorem putM_six {W : World} {b : Nat} {T : TypeId} {c0 c1 c2 c3 c4 c5 : Value} (h : At W b T #[c0, c1, c2, c3, c4, c5]) (x0 x1 x2 x3 x4 x5 : Int) : (putM (.pointer (some ⟨b, 0, none⟩)) (.agg #[.int .i64 x0, .int .i64 x1, .int .i64 x2, .int .i64 x3, .int .i64 x4, .int .i64 x5])).run Tryz.prog W = .ok () (W.setCells b 0 [.int .i64 x0, .int .i64 x1, .int .i64 x2, .int .i64 x3, .int .i64 x4, .int .i64 x5]) ∧ At (W.setCells b 0 [.int .i64 x0, .int .i64 x1, .int .i64 x2, .int .i64 x3, .int .i64 x4, .int .i64 x5]) b T #[.int .i64 x0, .int .i64 x1, .int .i64 x2, .int .i64 x3, .int .i64 x4, .int .i64 x5] :=
  ⟨putM_at h 0 (by simp) ⟨x0, x1, x2, x3, x4, x5⟩, h.setCells (o := 0) (vs := [.int .i64 x0, .int .i64 x1, .int .i64 x2, .int .i64 x3, .int .i64 x4, .int .i64 x5])⟩
theorem below_cells {B : Nat} {a : World} {b : Nat} (hb : B ≤ b) : ∀ {vs : List Value} {o : Nat} {w : World}, Below B a w → Below B a (w.setCells b o vs)
  | [], _, _, h => h
  | v :: r, o, w, h => by rw [World.setCells]; exact below_cells hb (h.setCell (p := ⟨b, o, none⟩) hb v)
theorem PAt.M {K : Pk} {w : World} {p : PS} {tS tG : Value} (h : PAt K w p tS tG) : (getM (.pointer (some ⟨K.P, 2, none⟩))).run Tryz.prog w = .ok (.agg #[.int .i64 p.now.m.a, .int .i64 p.now.m.b, .int .i64 p.now.m.c, .int .i64 p.now.m.d, .int .i64 p.now.m.e, .int .i64 p.now.m.f]) w := getM_at h.at_ 2 p.now.m (fun j v hv => by
  match j, hv with
  | 0, hv => exact hv
  | 1, hv => exact hv
  | 2, hv => exact hv
  | 3, hv => exact hv
  | 4, hv => exact hv
  | 5, hv => exact hv
  | j + 6, hv => simp [M6.cs] at hv)
set_option maxHeartbeats 4000000 in
theorem place_one (K : Pk) (p : PS) (tS tG : Value) (t : M6) (k : Int) (w : World) (hP : PAt K w p tS tG) (h1 : mulX p.now.size p.now.scale = .error k) :
    Calls Tryz.prog 104 #[.pointer (some ⟨K.P, 2, none⟩), .agg #[.int .i64 t.a, .int .i64 t.b, .int .i64 t.c, .int .i64 t.d, .int .i64 t.e, .int .i64 t.f]] w fun e w' => MatA e (.error k) ∧ Below w.heap.size w w' := by
  have T0 := hid ((At.new w #[.int .i64 t.a, .int .i64 t.b, .int .i64 t.c, .int .i64 t.d, .int .i64 t.e, .int .i64 t.f] 74 rfl).alloc (.cells #[.int .i64 0, .int .i64 0, .int .i64 0, .int .i64 0, .int .i64 0, .int .i64 0] 74))
  have R0 := hid (At.new (w.alloc (.cells #[.int .i64 t.a, .int .i64 t.b, .int .i64 t.c, .int .i64 t.d, .int .i64 t.e, .int .i64 t.f] 74)) #[.int .i64 0, .int .i64 0, .int .i64 0, .int .i64 0, .int .i64 0, .int .i64 0] 74 (b := w.heap.size + 1) (by simp))
  have P0 := hid ((hP.alloc (.cells #[.int .i64 t.a, .int .i64 t.b, .int .i64 t.c, .int .i64 t.d, .int .i64 t.e, .int .i64 t.f] 74)).alloc (.cells #[.int .i64 0, .int .i64 0, .int .i64 0, .int .i64 0, .int .i64 0, .int .i64 0] 74))
  have B0 : Hid (Below w.heap.size w ((w.alloc (.cells #[.int .i64 t.a, .int .i64 t.b, .int .i64 t.c, .int .i64 t.d, .int .i64 t.e, .int .i64 t.f] 74)).alloc (.cells #[.int .i64 0, .int .i64 0, .int .i64 0, .int .i64 0, .int .i64 0, .int .i64 0] 74))) := hid (by go_grown)
  have HM := hid (mul_x p.now.size p.now.scale)
  have H1 := hid h1
  clear hP h1
  go_enter Tryz.func104, Tryz.ntmps104
  go_wp2_with fail
  generalize (w.alloc (.cells #[.int .i64 t.a, .int .i64 t.b, .int .i64 t.c, .int .i64 t.d, .int .i64 t.e, .int .i64 t.f] 74)).alloc (.cells #[.int .i64 0, .int .i64 0, .int .i64 0, .int .i64 0, .int .i64 0, .int .i64 0] 74) = W0 at T0 R0 P0 B0 ⊢
  have H0 := hid (show ∀ W, Below W0.heap.size W0 W → Below W0.heap.size W0 W ∧ W.cell? ⟨K.P, 14, none⟩ = some (.int .i64 p.now.size) ∧ W.cell? ⟨K.P, 17, none⟩ = some (.int .i64 p.now.scale) from fun W hW => ⟨hW, (P0.out.later hW).c 14, (P0.out.later hW).c 17⟩)
  go_region_held3 (fun (W : World) => Below W0.heap.size W0 W ∧ W.cell? ⟨K.P, 14, none⟩ = some (.int .i64 p.now.size) ∧ W.cell? ⟨K.P, 17, none⟩ = some (.int .i64 p.now.scale))
    ((refine H0.out _ ?_; go_grown))
    (first
      | (go_at_call 108; refine (HM.out _).mono ?_; rintro e w1 ⟨hm, hb1⟩; rw [H1.out] at hm; cases (show e = .returned (.tuple #[.int .i64 0, .iface 68 (.int .i64 k)]) from hm); clear hm; (have B1 : Below W0.heap.size W0 w1 := chn0 (by go_grown) hb1); clear hb1))
  have R1 := R0.out.later B1
  have rc := R1.cell
  have rfr := R1.free
  have zR := R1.lt
  have B2 := hid (chn0 B0.out B1)
  clear R1 R0 T0 P0 B0 H0 HM B1
  go_wp2_with fail
  refine bodyPost_ret (v := .tuple #[.agg #[.int .i64 0, .int .i64 0, .int .i64 0, .int .i64 0, .int .i64 0, .int .i64 0], errV k]) (by simp [results, Tryz.results104, go_sem, errV, rc]) rfl ⟨rfl, below6 B2.out (by omega) _ _ _ _ _ _⟩
end Go.Proofs.YtobpidmlgldnmaaGreatDoor
