/-
  Joined: Mc, Ia, Ib.
-/
import Derived.Test.YtobpidmlgldnmaaGreatDoorMb
import Derived.Test.YtobpidmlgldnmaaGreatDoorKb
import Derived.Deep.QuietTactic
import Derived.BigQuiet
import Derived.BigRegion
import Derived.Deep.RegionWith
import Derived.Test.YtobpidmlgldnmaaGreatDoorVh
import Derived.Test.YtobpidmlgldnmaaGreatDoorCb
import Derived.Deep.MidRow
import Derived.Maps.AppendAt
import Derived.Maps.OwnSet
import Derived.Deep.RegionLaw
import Derived.OwnWalk

/-
  Contracts of the least box round points, of the program and of the document's answer.
-/
namespace Go.Proofs.YtobpidmlgldnmaaGreatDoor
open Go.RowKit
set_option maxRecDepth 100000

/-- Points in memory. -/
def PtsAt (w : World) (b off : Nat) (ps : List (Int × Int)) : Prop := b < w.heap.size ∧ ∀ k, k < ps.length → w.cell? ⟨b, off + k * 2, none⟩ = some (.int .i64 (ps.getD k (0, 0)).1) ∧ w.cell? ⟨b, off + k * 2 + 1, none⟩ = some (.int .i64 (ps.getD k (0, 0)).2)
theorem PtsAt.later {w w' : World} {b off : Nat} {ps : List (Int × Int)} (h : PtsAt w b off ps) (hb : Below w.heap.size w w') : PtsAt w' b off ps :=
  ⟨Nat.lt_of_lt_of_le h.1 hb.size, fun k hk => ⟨(hb.cell (p := ⟨b, _, none⟩) h.1).trans (h.2 k hk).1, (hb.cell (p := ⟨b, _, none⟩) h.1).trans (h.2 k hk).2⟩⟩

/-- As cmp.Compare. -/
def cmpI (x u : Int) : Int := if x < u then -1 else if u < x then 1 else 0
theorem cmpI_neg {x u : Int} : cmpI x u < 0 ↔ x < u := by unfold cmpI; split <;> (try split) <;> omega
theorem cmpI_pos {x u : Int} : 0 < cmpI x u ↔ u < x := by unfold cmpI; split <;> (try split) <;> omega
set_option maxHeartbeats 400000 in
theorem byX_any (x y u v : Int) (w : World) :
    Calls Tryz.prog 149 #[.agg #[.int .i64 x, .int .i64 y], .agg #[.int .i64 u, .int .i64 v]] w fun e w' => e = .returned (.int .i64 (cmpI x u)) ∧ Below w.heap.size w w' := by
  unfold cmpI
  by_cases h1 : x < u
  · rw [if_pos h1]
    go_enter Tryz.func149, Tryz.ntmps149
    go_wp2
    go_ret
    exact ⟨rfl, by go_grown⟩
  · rw [if_neg h1]
    by_cases h2 : u < x
    · rw [if_pos h2]
      go_enter Tryz.func149, Tryz.ntmps149
      go_wp2
      go_ret
      exact ⟨rfl, by go_grown⟩
    · rw [if_neg h2]
      go_enter Tryz.func149, Tryz.ntmps149
      go_wp2
      go_ret
      exact ⟨rfl, by go_grown⟩

set_option maxHeartbeats 400000 in
theorem byY_any (x y u v : Int) (w : World) :
    Calls Tryz.prog 151 #[.agg #[.int .i64 x, .int .i64 y], .agg #[.int .i64 u, .int .i64 v]] w fun e w' => e = .returned (.int .i64 (cmpI y v)) ∧ Below w.heap.size w w' := by
  unfold cmpI
  by_cases h1 : y < v
  · rw [if_pos h1]
    go_enter Tryz.func151, Tryz.ntmps151
    go_wp2
    go_ret
    exact ⟨rfl, by go_grown⟩
  · rw [if_neg h1]
    by_cases h2 : v < y
    · rw [if_pos h2]
      go_enter Tryz.func151, Tryz.ntmps151
      go_wp2
      go_ret
      exact ⟨rfl, by go_grown⟩
    · rw [if_neg h2]
      go_enter Tryz.func151, Tryz.ntmps151
      go_wp2
      go_ret
      exact ⟨rfl, by go_grown⟩

/-- The least x of points; 0 without points. -/
def minX : List (Int × Int) → Int
  | [] => 0
  | p :: l => l.foldl (fun a q => min a q.1) p.1
theorem minX_snoc (l : List (Int × Int)) (q : Int × Int) (h : l ≠ []) : minX (l ++ [q]) = min (minX l) q.1 := by
  cases l with
  | nil => exact absurd rfl h
  | cons p l => simp [minX, List.foldl_append]
/-- The least y of points; 0 without points. -/
def minY : List (Int × Int) → Int
  | [] => 0
  | p :: l => l.foldl (fun a q => min a q.2) p.2
theorem minY_snoc (l : List (Int × Int)) (q : Int × Int) (h : l ≠ []) : minY (l ++ [q]) = min (minY l) q.2 := by
  cases l with
  | nil => exact absurd rfl h
  | cons p l => simp [minY, List.foldl_append]
/-- The greatest x of points; 0 without points. -/
def maxX : List (Int × Int) → Int
  | [] => 0
  | p :: l => l.foldl (fun a q => max a q.1) p.1
theorem maxX_snoc (l : List (Int × Int)) (q : Int × Int) (h : l ≠ []) : maxX (l ++ [q]) = max (maxX l) q.1 := by
  cases l with
  | nil => exact absurd rfl h
  | cons p l => simp [maxX, List.foldl_append]
/-- The greatest y of points; 0 without points. -/
def maxY : List (Int × Int) → Int
  | [] => 0
  | p :: l => l.foldl (fun a q => max a q.2) p.2
theorem maxY_snoc (l : List (Int × Int)) (q : Int × Int) (h : l ≠ []) : maxY (l ++ [q]) = max (maxY l) q.2 := by
  cases l with
  | nil => exact absurd rfl h
  | cons p l => simp [maxY, List.foldl_append]
theorem take_pt (ps : List (Int × Int)) (k : Nat) (h : k < ps.length) : ps.take (k + 1) = ps.take k ++ [ps.getD k (0, 0)] := by
  rw [List.take_succ_eq_append_getElem h]; simp [List.getD, h]

theorem take_ne {ps : List (Int × Int)} {k n : Nat} (h1 : 1 ≤ k) (hlt : k < n) (hn : ps.length = n) : ps.take k ≠ [] := by
  intro h; rcases List.take_eq_nil_iff.1 h with h | h
  · omega
  · subst h; simp at hn; omega
set_option maxHeartbeats 2000000 in
theorem minFuncX (b off n c : Nat) (ps : List (Int × Int)) (w : World) (hn : ps.length = n) (h1 : 1 ≤ n) (h2 : n ≤ 1000) (hp : PtsAt w b off ps) :
    Calls Tryz.prog 152 #[.slice (some ⟨b, off, none⟩) n c, .func (.func 149) #[] #[]] w fun e w' => (∃ y, e = .returned (.agg #[.int .i64 (minX ps), .int .i64 y])) ∧ Below w.heap.size w w' := by
  obtain ⟨c0, c1⟩ := hp.2 0 (by omega)
  rw [Nat.zero_mul, Nat.add_zero] at c0 c1
  have hb0 := hp.1
  have HP := hid hp
  have hx0 : minX (ps.take 1) = (ps.getD 0 (0, 0)).1 := by
    rw [show ps.take 1 = ps.take 0 ++ [ps.getD 0 (0, 0)] from take_pt ps 0 (by omega)]; rfl
  have HX := hid hx0
  generalize (ps.getD 0 (0, 0)).1 = x0 at *
  generalize (ps.getD 0 (0, 0)).2 = y0 at *
  clear hp hx0
  go_enter Tryz.func152, Tryz.ntmps152
  go_wp2
  go_loopw [6] (fun i wr => ∃ (k : Nat) (x y : Int), 1 ≤ k ∧ k ≤ n ∧ i = .int .i64 k ∧ minX (ps.take k) = x ∧ Holds wr w.heap.size #[.int .i64 0, .int .i64 0] ∧ Holds wr (w.heap.size + 1) #[.int .i64 x, .int .i64 y] ∧ Below w.heap.size w wr) (fun i _ => n - (intOf i).toNat)
  case atStart => exact ⟨1, x0, y0, Nat.le_refl _, h1, rfl, HX.out, (Holds.new _ _ _).alloc _, (Holds.new _ _ _).at (by simp), by go_grown⟩
  case round =>
    obtain ⟨k, x, y, hk1, hk, rfl, hmin, hR, hM, hB⟩ := hrel
    have HPr := HP.out.later hB
    by_cases hlt : k < n
    · have hlt' : (k : Int) < n := by omega
      obtain ⟨d0, d1⟩ := HPr.2 k (by omega)
      have HT := hid (take_pt ps k (by omega))
      have hbr := HPr.1
      have HQ := hid HPr
      obtain ⟨mz, mc, mf⟩ := id hM
      have HM := hid hmin
      have HH := hid hM
      have HR := hid hR
      generalize ps.getD k (0, 0) = q at *
      obtain ⟨u, v⟩ := q
      dsimp only at d0 d1
      clear HPr hM hR hmin
      by_cases hc : u < x
      · have hneg : cmpI u x < 0 := cmpI_neg.2 hc
        go_wp2
        go_region_with (go_at_call 149; refine (byX_any _ _ _ _ _).mono ?_; rintro e w1 ⟨rfl, hb1⟩)
        all_goals
          have hb2 := below_undrew hb1
          have Hm := HH.out.later hb2
          have Hr := HR.out.later hb2
          have g0 := (hb2.cell (p := ⟨b, off + k * 2, none⟩) hbr).trans d0
          have g1 := (hb2.cell (p := ⟨b, off + k * 2 + 1, none⟩) hbr).trans d1
          obtain ⟨mz1, mc1, mf1⟩ := id Hm
          clear mz mc mf hb1 d0 d1
          go_wp2
          go_roundw
          case rel => exact ⟨k + 1, u, v, by omega, by omega, by go_num, by rw [HT.out, minX_snoc _ _ (take_ne hk1 hlt hn), HM.out]; simp; omega, (Hr.other (by omega)).other (by omega), Hm.set2, ((hB.trans (hb2.mono hB.size)).setCell (by simp) _).setCell (by simp) _⟩
          case measure => simp [intOf]; omega
      · have hneg : ¬ cmpI u x < 0 := fun h => hc (cmpI_neg.1 h)
        go_wp2
        go_region_with (go_at_call 149; refine (byX_any _ _ _ _ _).mono ?_; rintro e w1 ⟨rfl, hb1⟩)
        all_goals
          have hb2 := below_undrew hb1
          go_wp2
          go_roundw
          case rel => exact ⟨k + 1, x, y, by omega, by omega, by go_num, by rw [HT.out, minX_snoc _ _ (take_ne hk1 hlt hn), HM.out]; simp; omega, HR.out.later hb2, HH.out.later hb2, hB.trans (hb2.mono hB.size)⟩
          case measure => simp [intOf]; omega
    · have HM := hid hmin
      have HR := hid hR
      obtain ⟨mz, mc, mf⟩ := id hM
      obtain ⟨rz, rc, rf⟩ := id hR
      clear HPr hmin hM hR
      go_wp2
      refine bodyPost_ret (v := .agg #[.int .i64 x, .int .i64 y]) (by simp [results, Tryz.results152, go_sem, rc]) rfl ⟨⟨y, ?_⟩, ?_⟩
      · have := HM.out
        rw [List.take_of_length_le (by omega)] at this
        rw [this]
      · exact (hB.setCell (by simp) _).setCell (by simp) _
end Go.Proofs.YtobpidmlgldnmaaGreatDoor

/-
  What is painted, plainly; a painter in memory.
-/
namespace Go.Proofs.YtobpidmlgldnmaaGreatDoor
open Go.RowKit
set_option maxRecDepth 100000

abbrev Ex := Except Int
/-- A matrix. -/
structure M6 where
  a : Int
  b : Int
  c : Int
  d : Int
  e : Int
  f : Int
def M6.cs (m : M6) : List Value := [.int .i64 m.a, .int .i64 m.b, .int .i64 m.c, .int .i64 m.d, .int .i64 m.e, .int .i64 m.f]
def unit6 : M6 := ⟨1000, 0, 0, 1000, 0, 0⟩
/-- A font's cells. -/
structure FnC where
  wide : Bool
  mw : Value
  miss : Int
  mn : Value
  sl : Value
/-- What is saved and taken back. -/
structure StP where
  m : M6
  x : FnC
  has : Bool
  size : Int
  char : Int
  word : Int
  scale : Int
  lead : Int
  rise : Int
/-- A glyph. -/
structure Gl where
  s : ByteArray
  ax : Int
  ay : Int
  ex : Int
  ey : Int
  sz : Int
  x0 : Int
  y0 : Int
  x1 : Int
  y1 : Int
/-- What a painter has come to. -/
structure PS where
  now : StP
  saved : List StP
  inn : Bool
  t : M6
  l : M6
  out : List Gl
def StP.cs (s : StP) : List Value := [.int .i64 s.m.a, .int .i64 s.m.b, .int .i64 s.m.c, .int .i64 s.m.d, .int .i64 s.m.e, .int .i64 s.m.f, .bool s.x.wide, s.x.mw, .int .i64 s.x.miss, s.x.mn, s.x.sl, .bool s.has, .int .i64 s.size, .int .i64 s.char, .int .i64 s.word, .int .i64 s.scale, .int .i64 s.lead, .int .i64 s.rise]
def Gl.cs (g : Gl) : List Value := [.string g.s, .int .i64 g.ax, .int .i64 g.ay, .int .i64 g.ex, .int .i64 g.ey, .int .i64 g.sz, .int .i64 g.x0, .int .i64 g.y0, .int .i64 g.x1, .int .i64 g.y1]
def flatS (l : List StP) : List Value := l.flatMap StP.cs
def flatG (l : List Gl) : List Value := l.flatMap Gl.cs
/-- The cells of a painter. -/
abbrev PS.cs (fm sm tS tG : Value) (p : PS) : Array Value := #[fm, sm, .int .i64 p.now.m.a, .int .i64 p.now.m.b, .int .i64 p.now.m.c, .int .i64 p.now.m.d, .int .i64 p.now.m.e, .int .i64 p.now.m.f, .bool p.now.x.wide, p.now.x.mw, .int .i64 p.now.x.miss, p.now.x.mn, p.now.x.sl, .bool p.now.has, .int .i64 p.now.size, .int .i64 p.now.char, .int .i64 p.now.word, .int .i64 p.now.scale, .int .i64 p.now.lead, .int .i64 p.now.rise, tS, .bool p.inn, .int .i64 p.t.a, .int .i64 p.t.b, .int .i64 p.t.c, .int .i64 p.t.d, .int .i64 p.t.e, .int .i64 p.t.f, .int .i64 p.l.a, .int .i64 p.l.b, .int .i64 p.l.c, .int .i64 p.l.d, .int .i64 p.l.e, .int .i64 p.l.f, tG]

def mulX (a b : Int) : Ex Int := if linE a b 0 0 0 = 0 then .ok (linN a b 0 0 0) else .error 1
def addX (a b : Int) : Ex Int := if addE a b = 0 then .ok (addN a b) else .error 1
def conX (m n : M6) : Ex M6 := if coE m.a m.b m.c m.d m.e m.f n.a n.b n.c n.d n.e n.f = 0 then .ok ⟨linN m.a n.a m.b n.c 0, linN m.a n.b m.b n.d 0, linN m.c n.a m.d n.c 0, linN m.c n.b m.d n.d 0, linN m.e n.a m.f n.c n.e, linN m.e n.b m.f n.d n.f⟩ else .error 1
def appX (m : M6) (x y : Int) : Ex (Int × Int) := if apE m.a m.b m.c m.d m.e m.f x y = 0 then .ok (apX m.a m.b m.c m.d m.e m.f x y, apY m.a m.b m.c m.d m.e m.f x y) else .error 1
def alongX (x y : Int) (m : M6) : Ex M6 := conX ⟨1000, 0, 0, 1000, x, y⟩ m
def placeX (s : StP) (t : M6) : Ex M6 := (mulX s.size s.scale).bind fun a => (conX ⟨a, 0, 0, s.size, 0, s.rise⟩ t).bind fun m => conX m s.m
def glyphX (m : M6) (g : Sp) : Ex Gl := (appX m 0 0).bind fun p0 => (appX m g.t 0).bind fun p1 => (appX m 0 1000).bind fun p2 => (appX m g.t 1000).bind fun p3 =>
  .ok ⟨g.s, p0.1, p0.2, p1.1, p1.2, 0, minX [p0, p1, p2, p3], minY [p0, p1, p2, p3], maxX [p0, p1, p2, p3], maxY [p0, p1, p2, p3]⟩
def advX (s : StP) (g : Sp) : Ex Int := (mulX g.t s.size).bind fun x => (addX x s.char).bind fun x => (if g.f = 32 ∧ s.x.wide = false then addX x s.word else .ok x).bind fun x => mulX x s.scale
def signX (p : PS) (g : Sp) : Ex PS := if 1000 ≤ p.out.length then .error 2 else (placeX p.now p.t).bind fun m => (glyphX m g).bind fun gl => (advX p.now g).bind fun x => (alongX x 0 p.t).bind fun t => .ok { p with out := p.out ++ [{ gl with sz := p.now.size }], t := t }
def signsX : PS → List Sp → Ex PS
  | p, [] => .ok p
  | p, g :: l => (signX p g).bind fun p => signsX p l
def lineX (p : PS) (x y : Int) : Ex PS := (alongX x y p.l).bind fun m => .ok { p with t := m, l := m }
def numsX (l : List V) (k : Nat) : Ex (List Int) := if l.length = k ∧ (∀ v ∈ l, v.k = 2) then .ok (l.map (·.n)) else .error 8
section
variable (sg : FnC → ByteArray → Ex (List Sp))
def showX (p : PS) (s : ByteArray) : Ex PS := if p.now.has = true ∧ p.inn = true then (sg p.now.x s).bind fun l => signsX p l else .error 6
end
def onlyX (l : List V) (k : Int) : Ex V := match l with
  | [v] => if v.k = k then .ok v else .error 8
  | _ => .error 8
/-- Values in memory: a slice of them. -/
def ArgsAt (d : Nat) (w : World) (t : Value) (A : List V) : Prop := ∃ a c, t = .slice a A.length c ∧ A.length ≤ maxLen ∧ ∀ (i : Nat) x, A[i]? = some x → ∃ b off cs, a = some ⟨b, off, none⟩ ∧ b < w.heap.size ∧ CellsAt w b (off + i * 5) cs ∧ RepN d w x cs
theorem ArgsAt.later {d : Nat} {w w' : World} {t : Value} {A : List V} (h : ArgsAt d w t A) (hb : Below w.heap.size w w') : ArgsAt d w' t A := by
  obtain ⟨a, c, h1, h2, h3⟩ := h
  refine ⟨a, c, h1, h2, fun i x hx => ?_⟩
  obtain ⟨b, off, cs, q1, q2, q3, q4⟩ := h3 i x hx
  exact ⟨b, off, cs, q1, Nat.lt_of_lt_of_le q2 hb.size, q3.later q2 hb, q4.later hb⟩
theorem chn0 {a b c : World} (h : Below a.heap.size a b) (k : Below b.heap.size b c) : Below a.heap.size a c := h.trans (k.mono h.size)
/-- Where a painter, its variable, and its table of setters lie; ahead of which block nothing changes. -/
structure Pk where
  w0 : World
  P : Nat
  B : Nat
  fm : Value
  sm : Value
  wB : World
/-- A painter in memory. -/
structure PAt (K : Pk) (w : World) (p : PS) (tS tG : Value) : Prop where
  at_ : At w K.P 79 (p.cs K.fm K.sm tS tG)
  le : K.w0.heap.size ≤ K.P
  lt : K.P < K.B
  bl : K.B ≤ w.heap.size
  keep : Below K.w0.heap.size K.w0 w
  ownS : w.ownsRow K.B 76 18 tS p.saved.length (flatS p.saved)
  ownG : w.ownsRow K.B 48 10 tG p.out.length (flatG p.out)
  apart : ∀ g, tS.ownBlock = some g → tG.ownBlock ≠ some g
  fix : ∀ b, b < K.B → b ≠ K.P → w.heap[b]? = K.wB.heap[b]?
theorem PAt.later {K : Pk} {a b : World} {p : PS} {tS tG : Value} (h : PAt K a p tS tG) (k : Below a.heap.size a b) : PAt K b p tS tG := by
  have hg : a.grownBy b none := ⟨k.os, k.tape, k.output, k.size, fun i hi _ => k.block i hi⟩
  refine ⟨h.at_.later k, h.le, h.lt, Nat.le_trans h.bl k.size, h.keep.trans (k.mono h.keep.size), World.ownsRow.kept h.ownS hg ?_, World.ownsRow.kept h.ownG hg ?_, h.apart, fun i hi hn => (k.block i (Nat.lt_of_lt_of_le hi h.bl)).trans (h.fix i hi hn)⟩
  · cases tS.ownBlock <;> simp
  · cases tG.ownBlock <;> simp
/-- The painter's own block is written. -/
theorem PAt.keepBut {K : Pk} {a b : World} {p p' : PS} {tS tG : Value} (h : PAt K a p tS tG) (k : KeepBut K.P a b) (hA : At b K.P 79 (p'.cs K.fm K.sm tS tG)) (hs : p'.saved = p.saved) (ho : p'.out = p.out) : PAt K b p' tS tG := by
  have hg : a.grownBy b (some K.P) := ⟨k.os, k.tape, k.output, k.size, fun i hi hne => k.block i hi (fun e => hne (by rw [e]))⟩
  refine ⟨hA, h.le, h.lt, Nat.le_trans h.bl k.size, ?_, ?_, ?_, h.apart, fun i hi hn => (k.block i (Nat.lt_of_lt_of_le hi h.bl) hn).trans (h.fix i hi hn)⟩
  · exact h.keep.grown hg h.keep.size (fun j hj => by cases hj; exact h.le)
  · rw [hs]; exact World.ownsRow.kept h.ownS hg (.inr fun e => by have := (h.ownS.lt K.P e).1; have := h.lt; omega)
  · rw [ho]; exact World.ownsRow.kept h.ownG hg (.inr fun e => by have := (h.ownG.lt K.P e).1; have := h.lt; omega)
/-- What a painter's step answers. -/
def PRes (K : Pk) (e : Ending) (w' : World) (r : Ex PS) : Prop := match r with
  | .ok p => e = .returned .nilIface ∧ ∃ tS tG, PAt K w' p tS tG
  | .error k => e = .returned (errV k) ∧ Below K.w0.heap.size K.w0 w'
theorem con_ok {m n r : M6} (h : conX m n = .ok r) : coE m.a m.b m.c m.d m.e m.f n.a n.b n.c n.d n.e n.f = 0 ∧ coV m.a m.b m.c m.d m.e m.f n.a n.b n.c n.d n.e n.f = .agg r.cs.toArray := by
  unfold conX at h
  split at h
  · rename_i h0
    injection h with h
    exact ⟨h0, by rw [coV_ok h0, ← h]; rfl⟩
  · cases h
theorem con_err {m n : M6} {k : Int} (h : conX m n = .error k) : k = 1 ∧ coE m.a m.b m.c m.d m.e m.f n.a n.b n.c n.d n.e n.f = 1 ∧ coV m.a m.b m.c m.d m.e m.f n.a n.b n.c n.d n.e n.f = .agg #[.int .i64 0, .int .i64 0, .int .i64 0, .int .i64 0, .int .i64 0, .int .i64 0] := by
  unfold conX at h
  split at h
  · cases h
  · rename_i h0
    have h01 := coE_01 m.a m.b m.c m.d m.e m.f n.a n.b n.c n.d n.e n.f
    have h1 : coE m.a m.b m.c m.d m.e m.f n.a n.b n.c n.d n.e n.f = 1 := by omega
    injection h with h
    exact ⟨h.symm, h1, coV_bad h1⟩
end Go.Proofs.YtobpidmlgldnmaaGreatDoor

/-
  Numbers that values are.
-/
namespace Go.Proofs.YtobpidmlgldnmaaGreatDoor
open Go.RowKit
set_option maxRecDepth 100000

/-- Numbers that were made. -/
def NumsA (w w' : World) (e : Ending) (r : Ex (List Int)) : Prop := match r with
  | .ok l => ∃ g cur, e = .returned (.tuple #[.slice (some ⟨g, 0, none⟩) l.length l.length, .nilIface]) ∧ w.heap.size ≤ g ∧ At w' g 3 cur ∧ ∀ (i : Nat) z, l[i]? = some z → cur[i]? = some (.int .i64 z)
  | .error k => e = .returned (.tuple #[.slice none 0 0, errV k])
theorem infoI : (Tryz.prog.info? 3).map (fun i => (i.zero, i.size, i.bytes)) = some (some (.int .i64 0), 1, 8) := by kernel_rfl
theorem numbers_bad (d : Nat) (A : List V) (t : Value) (n : Nat) (w : World) (hA : ArgsAt d w t A) (hn : A.length ≠ n) (_hl : n ≤ 6) :
    Calls Tryz.prog 68 #[t, .int .i64 n] w fun e w' => NumsA w w' e (.error 8) ∧ Below w.heap.size w w' := by
  obtain ⟨a, c, rfl, hlA, _⟩ := hA
  unfold maxLen at hlA
  have hn' : ¬ (A.length : Int) = n := by omega
  have hn2 : ((A.length : Int) == n) = false := by simpa using hn'
  go_enter Tryz.func68, Tryz.ntmps68
  go_wp2
  go_ret2
  exact ⟨rfl, by go_grown⟩
set_option maxHeartbeats 2000000 in
theorem numbers_ok (d : Nat) (A : List V) (t : Value) (n : Nat) (w : World) (hA : ArgsAt d w t A) (hn : A.length = n) (hl : n ≤ 6) :
    Calls Tryz.prog 68 #[t, .int .i64 n] w fun e w' => NumsA w w' e (numsX A n) ∧ Below w.heap.size w w' := by
  obtain ⟨iV, hiV, hv0, hv1, hv2⟩ := info_parts infoI
  obtain ⟨a, c, rfl, hlA, hA⟩ := hA
  have HA := hid hA
  clear hA
  subst hn
  obtain ⟨w1, hmk, hown, hg1⟩ := run_make_full (P := Tryz.prog) w w.heap.size 67 3 iV _ 1 Tryz.underlying67 hiV hv0 hv1 .i64 .i64 A.length (by rw [hv2]; omega) hlA (Nat.le_refl _)
  have hW : Below w.heap.size w w1 := ⟨hg1.os, hg1.tape, hg1.output, hg1.size, fun k hk => hg1.block k hk (by simp)⟩
  have H1 := hid hown
  clear hown hg1
  unfold maxLen at hlA
  go_enter Tryz.func68, Tryz.ntmps68
  go_wp2_with fail
  go_loopw [18] (fun i wr => ∃ (k : Nat) (cur : Array Value), i = .int .i64 k ∧ k ≤ A.length ∧ Below w.heap.size w wr ∧ At wr w.heap.size 3 cur ∧ cur.size = A.length ∧ (∀ (j : Nat) x, j < k → A[j]? = some x → x.k = 2 ∧ cur[j]? = some (.int .i64 x.n))) (fun i _ => A.length - (intOf i).toNat)
  case atStart =>
    rcases H1.out.2 with ⟨hq, _⟩ | ⟨g, cap, cur, hq, _, hg, hc, _, hs, _⟩
    · cases hq
    · cases hq
      refine ⟨0, cur, rfl, by omega, hW, hg, ?_, fun j x hj => by omega⟩
      simpa using hs
  case round =>
    obtain ⟨k, cur, rfl, hk, hB, hat, hsz, hd⟩ := hrel
    have HD := hid hd
    have HAt := hid hat
    have hcell := hat.cell k
    have hfree := hat.free k
    have zg := hat.lt
    clear hd hat hmk
    have hk0 : (0 : Int) ≤ k := by omega
    by_cases hkl : k < A.length
    · have hkl' : (k : Int) < A.length := by omega
      rw [Array.getElem?_eq_getElem (by omega)] at hcell
      obtain ⟨b, off, cs, rfl, hbl, hc, hr⟩ := HA.out k A[k] (List.getElem?_eq_getElem hkl)
      have HX := hid (List.getElem?_eq_getElem hkl)
      generalize A[k] = x at hr HX
      obtain ⟨e', rfl⟩ := hr.inv
      obtain ⟨al, af, cl, cf, rfl, _⟩ := hr
      have c' := hc.later hbl hB
      have m0 := c' 0 _ rfl
      have m1 := c' 1 _ rfl
      have m2 := c' 2 _ rfl
      have m3 := c' 3 _ rfl
      have m4 := c' 4 _ rfl
      rw [Nat.add_zero] at m0
      have zb : b < wr.heap.size := Nat.lt_of_lt_of_le hbl hB.size
      clear hc c'
      by_cases hx : x.k = 2
      · rw [hx] at m0
        go_wp2_with fail
        have hA2 : At (wr.setCell ⟨w.heap.size, k, none⟩ (.int .i64 x.n)) w.heap.size 3 (cur.setIfInBounds k (.int .i64 x.n)) := heap_setCell_same wr _ k _ _ _ HAt.out
        refine ⟨⟨k + 1, _, by go_num, by omega, ?_, hA2.alloc _, by simpa using hsz, fun j y hj hy => ?_⟩, by simp [intOf]; omega⟩
        · have h1 := hB.setCell (p := ⟨w.heap.size, k, none⟩) (Nat.le_refl _) (.int .i64 x.n)
          exact h1.alloc h1.size _
        · by_cases e : j = k
          · subst e
            have := HX.out
            rw [hy] at this
            injection this with this
            subst this
            exact ⟨hx, by rw [Array.getElem?_setIfInBounds_self, if_pos (by omega)]⟩
          · have q := HD.out j y (by omega) hy
            exact ⟨q.1, by rw [Array.getElem?_setIfInBounds_ne (by omega)]; exact q.2⟩
      · have hx2 : (x.k == 2) = false := by simpa using hx
        go_wp2_with fail
        go_ret2
        refine ⟨?_, hB.alloc hB.size _⟩
        have : numsX A A.length = .error 8 := by
          unfold numsX
          rw [if_neg (fun q => hx (q.2 x (List.mem_of_getElem? HX.out)))]
        rw [this]; rfl
    · have hkl' : ¬ (k : Int) < A.length := by omega
      go_wp2_with fail
      go_ret2
      refine ⟨?_, hB⟩
      have hke : k = A.length := by omega
      have hall : ∀ v ∈ A, v.k = 2 := fun v hv => by
        obtain ⟨j, hj⟩ := List.getElem?_of_mem hv
        exact (HD.out j v (by have := (List.getElem?_eq_some_iff.1 hj).1; omega) hj).1
      unfold numsX
      rw [if_pos ⟨rfl, hall⟩]
      refine ⟨w.heap.size, cur, by simp, Nat.le_refl _, HAt.out, fun i z hz => ?_⟩
      rw [List.getElem?_map] at hz
      cases hq : A[i]? with
      | none => rw [hq] at hz; cases hz
      | some v =>
        rw [hq] at hz
        injection hz with hz
        rw [← hz]
        exact (HD.out i v (by have := (List.getElem?_eq_some_iff.1 hq).1; omega) hq).2
theorem numbers_says (d : Nat) (A : List V) (t : Value) (n : Nat) (w : World) (hA : ArgsAt d w t A) (hl : n ≤ 6) :
    Calls Tryz.prog 68 #[t, .int .i64 n] w fun e w' => NumsA w w' e (numsX A n) ∧ Below w.heap.size w w' := by
  by_cases hn : A.length = n
  · exact numbers_ok d A t n w hA hn hl
  · have : numsX A n = .error 8 := by unfold numsX; rw [if_neg (fun q => hn q.1)]
    rw [this]
    exact numbers_bad d A t n w hA hn hl
/-- Just one number. -/
theorem nums1 {w w' : World} {e : Ending} {A : List V} (h : NumsA w w' e (numsX A 1)) : (numsX A 1 = .error 8 ∧ e = .returned (.tuple #[.slice none 0 0, errV 8])) ∨ ∃ z g, numsX A 1 = .ok [z] ∧ A.map (·.n) = [z] ∧ e = .returned (.tuple #[.slice (some ⟨g, 0, none⟩) 1 1, .nilIface]) ∧ w.heap.size ≤ g ∧ g < w'.heap.size ∧ w'.cell? ⟨g, 0, none⟩ = some (.int .i64 z) := by
  unfold numsX at h ⊢
  split at h
  · rename_i hc
    obtain ⟨g, cur, he, hg, hat, hd⟩ := h
    obtain ⟨x, rfl⟩ := List.length_eq_one_iff.1 hc.1
    refine .inr ⟨x.n, g, by rw [if_pos hc]; rfl, rfl, he, hg, hat.lt, ?_⟩
    rw [hat.cell 0]; exact hd 0 _ rfl
  · rename_i hc
    exact .inl ⟨by rw [if_neg hc], h⟩
theorem nums2 {w w' : World} {e : Ending} {A : List V} (h : NumsA w w' e (numsX A 2)) : (numsX A 2 = .error 8 ∧ e = .returned (.tuple #[.slice none 0 0, errV 8])) ∨ ∃ y z g, numsX A 2 = .ok [y, z] ∧ A.map (·.n) = [y, z] ∧ e = .returned (.tuple #[.slice (some ⟨g, 0, none⟩) 2 2, .nilIface]) ∧ w.heap.size ≤ g ∧ g < w'.heap.size ∧ w'.cell? ⟨g, 0, none⟩ = some (.int .i64 y) ∧ w'.cell? ⟨g, 1, none⟩ = some (.int .i64 z) := by
  unfold numsX at h ⊢
  split at h
  · rename_i hc
    obtain ⟨g, cur, he, hg, hat, hd⟩ := h
    match A, hc with
    | [x, y], hc =>
      refine .inr ⟨x.n, y.n, g, by rw [if_pos hc]; rfl, rfl, he, hg, hat.lt, ?_, ?_⟩
      · rw [hat.cell 0]; exact hd 0 _ rfl
      · rw [hat.cell 1]; exact hd 1 _ rfl
  · rename_i hc
    exact .inl ⟨by rw [if_neg hc], h⟩
theorem nums6 {w w' : World} {e : Ending} {A : List V} (h : NumsA w w' e (numsX A 6)) : (numsX A 6 = .error 8 ∧ e = .returned (.tuple #[.slice none 0 0, errV 8])) ∨ ∃ (m : M6) (g : Nat), numsX A 6 = .ok [m.a, m.b, m.c, m.d, m.e, m.f] ∧ e = .returned (.tuple #[.slice (some ⟨g, 0, none⟩) 6 6, .nilIface]) ∧ w.heap.size ≤ g ∧ g < w'.heap.size ∧ w'.cell? ⟨g, 0, none⟩ = some (.int .i64 m.a) ∧ w'.cell? ⟨g, 1, none⟩ = some (.int .i64 m.b) ∧ w'.cell? ⟨g, 2, none⟩ = some (.int .i64 m.c) ∧ w'.cell? ⟨g, 3, none⟩ = some (.int .i64 m.d) ∧ w'.cell? ⟨g, 4, none⟩ = some (.int .i64 m.e) ∧ w'.cell? ⟨g, 5, none⟩ = some (.int .i64 m.f) := by
  unfold numsX at h ⊢
  split at h
  · rename_i hc
    obtain ⟨g, cur, he, hg, hat, hd⟩ := h
    match A, hc with
    | [x0, x1, x2, x3, x4, x5], hc =>
      refine .inr ⟨⟨x0.n, x1.n, x2.n, x3.n, x4.n, x5.n⟩, g, by rw [if_pos hc]; rfl, he, hg, hat.lt, ?_, ?_, ?_, ?_, ?_, ?_⟩
      · rw [hat.cell 0]; exact hd 0 _ rfl
      · rw [hat.cell 1]; exact hd 1 _ rfl
      · rw [hat.cell 2]; exact hd 2 _ rfl
      · rw [hat.cell 3]; exact hd 3 _ rfl
      · rw [hat.cell 4]; exact hd 4 _ rfl
      · rw [hat.cell 5]; exact hd 5 _ rfl
  · rename_i hc
    exact .inl ⟨by rw [if_neg hc], h⟩
/-- The matrix that six values are. -/
def matX (A : List V) : Ex M6 := match numsX A 6 with
  | .ok [a, b, c, d, e, f] => .ok ⟨a, b, c, d, e, f⟩
  | .ok _ => .error 8
  | .error k => .error k
def MatA (e : Ending) (r : Ex M6) : Prop := match r with
  | .ok m => e = .returned (.tuple #[.agg m.cs.toArray, .nilIface])
  | .error k => e = .returned (.tuple #[.agg #[.int .i64 0, .int .i64 0, .int .i64 0, .int .i64 0, .int .i64 0, .int .i64 0], errV k])
set_option maxHeartbeats 1000000 in
theorem matrix_says (d : Nat) (A : List V) (t : Value) (w : World) (hA : ArgsAt d w t A) :
    Calls Tryz.prog 69 #[t] w fun e w' => MatA e (matX A) ∧ Below w.heap.size w w' := by
  have HN := hid (fun W (hB : Below w.heap.size w W) => (numbers_says d A t 6 W (hA.later hB) (by omega) : Calls Tryz.prog 68 #[t, .int .i64 6] W _))
  clear hA
  go_enter Tryz.func69, Tryz.ntmps69
  go_wp2_with (go_at_call 68; fail)
  go_at_call 68
  refine (HN.out _ (by go_grown)).mono ?_
  rintro e w1 ⟨hr, hb1⟩
  have A1 := At.later (At.new w #[.int .i64 0, .int .i64 0, .int .i64 0, .int .i64 0, .int .i64 0, .int .i64 0] 74 rfl) hb1
  have B1 : Below w.heap.size w w1 := chn0 (by go_grown) hb1
  have z1 := A1.lt
  have rc := A1.cell
  have rf := A1.free
  clear HN
  rcases nums6 hr with ⟨hq, rfl⟩ | ⟨m, g, hq, rfl, hg, hgl, k0, k1, k2, k3, k4, k5⟩
  · have : matX A = .error 8 := by unfold matX; rw [hq]
    unfold errV
    go_wp2_with fail
    refine bodyPost_ret (v := .tuple #[.agg #[.int .i64 0, .int .i64 0, .int .i64 0, .int .i64 0, .int .i64 0, .int .i64 0], errV 8]) (by simp [results, Tryz.results69, go_sem, errV, rc]) rfl ⟨by rw [this]; rfl, ?_⟩
    exact (((((B1.setCell (p := ⟨w.heap.size, 0, none⟩) (Nat.le_refl _) _).setCell (p := ⟨w.heap.size, 1, none⟩) (Nat.le_refl _) _).setCell (p := ⟨w.heap.size, 2, none⟩) (Nat.le_refl _) _).setCell (p := ⟨w.heap.size, 3, none⟩) (Nat.le_refl _) _).setCell (p := ⟨w.heap.size, 4, none⟩) (Nat.le_refl _) _).setCell (p := ⟨w.heap.size, 5, none⟩) (Nat.le_refl _) _
  · have : matX A = .ok m := by unfold matX; rw [hq]
    go_wp2_with fail
    go_region
    go_wp2_with fail
    refine bodyPost_ret (v := .tuple #[.agg m.cs.toArray, .nilIface]) (by simp [results, Tryz.results69, go_sem, M6.cs, rc]) rfl ⟨by rw [this]; rfl, ?_⟩
    exact ((((((B1.setCell (p := ⟨w.heap.size, 0, none⟩) (Nat.le_refl _) _).setCell (p := ⟨w.heap.size, 1, none⟩) (Nat.le_refl _) _).setCell (p := ⟨w.heap.size, 2, none⟩) (Nat.le_refl _) _).setCell (p := ⟨w.heap.size, 3, none⟩) (Nat.le_refl _) _).setCell (p := ⟨w.heap.size, 4, none⟩) (Nat.le_refl _) _).setCell (p := ⟨w.heap.size, 5, none⟩) (Nat.le_refl _) _).drew
def OnlyA (d : Nat) (w : World) (e : Ending) (r : Ex V) : Prop := match r with
  | .ok v => ∃ cs, e = .returned (.tuple #[.agg cs.toArray, .nilIface]) ∧ RepN d w v cs
  | .error k => e = .returned (.tuple #[.agg #[.int .i64 0, .int .i64 0, .string ⟨#[]⟩, .slice none 0 0, .slice none 0 0], errV k])
end Go.Proofs.YtobpidmlgldnmaaGreatDoor
