/-
  Joined: Vz, Vaa, Vc5.
-/
import Derived.Test.YtflcibmjblioaaaGreatDoorVc1
import Derived.Deep.AppendLies
import Derived.Deep.LoopGhost
import Derived.WalkSmall
import Derived.Deep.RegionHeld3
import Derived.Test.YtflcibmjblioaaaGreatDoorVc4

/-
  Two values, the same but for the values in them: the program's own answer.
-/
namespace Go.Proofs.YtflcibmjblioaaaGreatDoor
open Go.RowKit
set_option maxRecDepth 100000
attribute [local go_sem ↓] Go.wp_at_zero Go.wp_at_succ

set_option maxHeartbeats 1000000 in
theorem sameOutside_says {d : Nat} {w : World} (x y : V) (b o b' o' : Nat) (cs cs' : List Value) (hx : RepN d w x cs) (hc : CellsAt w b o cs) (hb : b < w.heap.size) (hy : RepN d w y cs') (hc' : CellsAt w b' o' cs') (hb' : b' < w.heap.size) :
    Calls Tryz.prog 53 #[.pointer (some ⟨b, o, none⟩), .pointer (some ⟨b', o', none⟩)] w fun e w' => AnsB e (SameOut x y) ∧ Below w.heap.size w w' := by
  obtain ⟨e, rfl⟩ := hx.inv
  obtain ⟨al, af, cl, cf, rfl, ⟨hs, hl, hf⟩, hL, hF⟩ := hx
  obtain ⟨al', af', cl', cf', rfl, ⟨hs', hl', hf'⟩, hL', hF'⟩ := hy
  have g0 : w.cell? ⟨b, o, none⟩ = _ := hc 0 _ rfl
  have g1 : w.cell? ⟨b, o + 1, none⟩ = _ := hc 1 _ rfl
  have g2 : w.cell? ⟨b, o + 2, none⟩ = _ := hc 2 _ rfl
  have g3 : w.cell? ⟨b, o + 3, none⟩ = _ := hc 3 _ rfl
  have g4 : w.cell? ⟨b, o + 4, none⟩ = _ := hc 4 _ rfl
  have f0 : w.cell? ⟨b', o', none⟩ = _ := hc' 0 _ rfl
  have f1 : w.cell? ⟨b', o' + 1, none⟩ = _ := hc' 1 _ rfl
  have f2 : w.cell? ⟨b', o' + 2, none⟩ = _ := hc' 2 _ rfl
  have f3 : w.cell? ⟨b', o' + 3, none⟩ = _ := hc' 3 _ rfl
  have f4 : w.cell? ⟨b', o' + 4, none⟩ = _ := hc' 4 _ rfl
  have HE := hid (fun (w1 : World) (h : Below w.heap.size w w1) => equalFunc_says (w := w1) x.f y.f af af' cf cf' hf (FAt.later hF h) (FAt.later hF' h))
  clear hL hL' hF hF' hc hc' hs hs' hl hl' hf hf'
  go_enter Tryz.func53, Tryz.ntmps53
  by_cases h1 : x.k = y.k
  case neg =>
    have b1 : (x.k == y.k) = false := by simpa using h1
    go_wp2_with fail
    go_quiet (fail)
    go_wp2
    go_ret
    exact ⟨.no (fun h => h1 h.1), bel_drewN _ _⟩
  rw [← h1] at f0
  have HH1 := hid h1
  clear h1
  by_cases h2 : x.n = y.n
  case neg =>
    have b1 : (x.n == y.n) = false := by simpa using h2
    go_wp2_with fail
    go_quiet (fail)
    go_wp2
    go_ret
    exact ⟨.no (fun h => h2 h.2.1), bel_drewN _ _⟩
  rw [← h2] at f1
  have HH2 := hid h2
  clear h2
  cases h3 : (x.s.toList == y.s.toList)
  case false =>
    have H3 := hid h3
    go_wp2_with fail
    go_quiet (fail)
    go_wp2
    go_ret
    exact ⟨.no (fun h => by have := H3.out; rw [h.2.2.1] at this; simp at this), bel_drewN _ _⟩
  have h3' : x.s = y.s := toList_inj.1 (by simpa using h3)
  rw [← h3'] at f2
  have HH3 := hid h3'
  clear h3 h3'
  by_cases h4 : x.l.length = y.l.length
  case neg =>
    have b1 : ((x.l.length : Int) == (y.l.length : Int)) = false := by simp; omega
    go_wp2_with fail
    go_quiet (fail)
    go_wp2
    go_ret
    exact ⟨.no (fun h => h4 h.2.2.2.1), bel_drewN _ _⟩
  rw [← h4] at f3
  have HH4 := hid h4
  clear h4
  go_wp2_with fail
  go_region_held3 (fun w' => w'.cell? ⟨b, o, none⟩ = some (.int .i64 x.k) ∧ w'.cell? ⟨b, o + 1, none⟩ = some (.int .i64 x.n) ∧ w'.cell? ⟨b, o + 2, none⟩ = some (.string x.s) ∧ w'.cell? ⟨b, o + 3, none⟩ = some (.slice al x.l.length cl) ∧ w'.cell? ⟨b, o + 4, none⟩ = some (.slice af x.f.length cf) ∧ w'.cell? ⟨b', o', none⟩ = some (.int .i64 x.k) ∧ w'.cell? ⟨b', o' + 1, none⟩ = some (.int .i64 x.n) ∧ w'.cell? ⟨b', o' + 2, none⟩ = some (.string x.s) ∧ w'.cell? ⟨b', o' + 3, none⟩ = some (.slice al' x.l.length cl') ∧ w'.cell? ⟨b', o' + 4, none⟩ = some (.slice af' y.f.length cf'))
    (first | go_keep | (have hx := fun q => hb1.cell (p := ⟨b, q, none⟩) hb; have hx' := fun q => hb1.cell (p := ⟨b', q, none⟩) hb'; simp at hx hx'; simp [hx, hx', g0, g1, g2, g3, g4, f0, f1, f2, f3, f4]))
    ((go_at_call 85; refine (HE.out _ (by first | exact (Below.refl _ _).drew | exact Below.refl _ _ | go_grown)).mono ?_; rintro e w1 ⟨ha, hb1⟩; obtain ⟨r, rfl, hr1⟩ := ha.bool; have HR1 := hid hr1; clear hr1 ha))
  all_goals go_wp2
  all_goals go_ret
  all_goals refine ⟨AnsB.of (HR1.out.trans ⟨fun h => ⟨HH1.out, HH2.out, HH3.out, HH4.out, h⟩, fun h => h.2.2.2.2⟩), ?_⟩
  all_goals first | exact below_undrew hb1 | exact (below_undrew hb1).drew | exact hb1
end Go.Proofs.YtflcibmjblioaaaGreatDoor

/-
  The program's own answer to 'are two the same': pairs that are still to be looked at.
-/
namespace Go.Proofs.YtflcibmjblioaaaGreatDoor
open Go.RowKit
set_option maxRecDepth 100000
attribute [local go_sem ↓] Go.wp_at_zero Go.wp_at_succ

theorem own_form {w : World} {base : Nat} {e : TypeId} {size : Nat} {v : Value} {n : Nat} {xs : List Value} (h : w.ownsRow base e size v n xs) (hn : 0 < n) :
    ∃ g cap, v = .slice (some ⟨g, 0, none⟩) n cap ∧ base ≤ g ∧ g < w.heap.size ∧ n ≤ cap ∧ cap ≤ maxLen := by
  rcases h.2 with ⟨_, h0⟩ | ⟨g, cap, cur, hv, hb, hg, h1, h2, _⟩
  · omega
  · exact ⟨g, cap, hv, hb, (Array.getElem?_eq_some_iff.1 hg).1, h1, h2⟩

/-- Two that are held against each other, and where they lie. -/
structure PP where
  b : Nat
  o : Nat
  x : V
  b' : Nat
  o' : Nat
  y : V
def PP.cells (q : PP) : List Value := [.pointer (some ⟨q.b, q.o, none⟩), .pointer (some ⟨q.b', q.o', none⟩)]
def PP.ok (d : Nat) (w : World) (q : PP) : Prop := q.b < w.heap.size ∧ q.b' < w.heap.size ∧ (∃ c, CellsAt w q.b q.o c ∧ RepN d w q.x c) ∧ ∃ c, CellsAt w q.b' q.o' c ∧ RepN d w q.y c
def flatP (l : List PP) : List Value := l.flatMap PP.cells
theorem flatP_append (l k : List PP) : flatP (l ++ k) = flatP l ++ flatP k := List.flatMap_append
theorem flatP_one (q : PP) : flatP [q] = q.cells := by simp [flatP]
theorem flatP_len (l : List PP) : (flatP l).length = l.length * 2 := by
  induction l with
  | nil => rfl
  | cons q l ih => rw [flatP, List.flatMap_cons, List.length_append, List.length_cons, show (List.flatMap PP.cells l).length = l.length * 2 from ih]; simp [PP.cells]; omega
/-- How much is still to be looked at. -/
def leftP (l : List PP) : Nat := (l.map fun q => q.x.cnt).sum
theorem leftP_append (l k : List PP) : leftP (l ++ k) = leftP l + leftP k := by simp [leftP]
theorem leftP_ge (l : List PP) : l.length ≤ leftP l := by
  induction l with
  | nil => simp
  | cons q l ih =>
    have : 1 ≤ q.x.cnt := by rw [cnt_eq]; omega
    simp [leftP] at *; omega
theorem v_ext {x y : V} (h : SameOut x y) (hl : ∀ k : Nat, k < x.l.length → x.l[k]? = y.l[k]?) (hf : ∀ k : Nat, k < x.f.length → (x.f[k]?).map (·.2) = (y.f[k]?).map (·.2)) : x = y := by
  obtain ⟨h1, h2, h3, h4, h5⟩ := h
  have hlen : x.f.length = y.f.length := by have := congrArg List.length h5; simpa using this
  refine V.ext' h1 h2 h3 (List.ext_getElem? fun k => ?_) (List.ext_getElem? fun k => ?_)
  · by_cases hk : k < x.l.length
    · exact hl k hk
    · rw [List.getElem?_eq_none (by omega), List.getElem?_eq_none (by omega)]
  · by_cases hk : k < x.f.length
    · have a := hf k hk
      have b := congrArg (fun l : List ByteArray => l[k]?) h5
      simp only [List.getElem?_map] at b
      rw [List.getElem?_eq_getElem hk, List.getElem?_eq_getElem (by omega)] at a b ⊢
      simp only [Option.map_some, Option.some.injEq] at a b
      exact congrArg some (Prod.ext b a)
    · rw [List.getElem?_eq_none (by omega), List.getElem?_eq_none (by omega)]
theorem sameOut_refl (x : V) : SameOut x x := ⟨rfl, rfl, rfl, rfl, rfl⟩
theorem infoP : (Tryz.prog.info? 100).map (fun i => (i.zero, i.size, i.bytes)) = some (some (.agg #[.pointer none, .pointer none]), 2, 16) := by kernel_rfl
/-- What is still to be looked at. -/
structure Pend (d : Nat) (wb : World) (x y : V) (k : Nat) (t : Value) (wr : World) (Q : List PP) : Prop where
  left : leftP Q = k
  own : wr.ownsRow wb.heap.size 100 2 t Q.length (flatP Q)
  ok : ∀ q ∈ Q, q.ok d wb
  iff : x = y ↔ ∀ q ∈ Q, q.x = q.y
  below : Below wb.heap.size wb wr
  most : k ≤ 1048576

/-- Pairs that one pair led to, so far. -/
structure More (d : Nat) (wb : World) (q : PP) (Q0 : List PP) (P : Nat) (t : Value) (wr : World) (N : List PP) : Prop where
  own : wr.ownsRow wb.heap.size 100 2 t (Q0.length + N.length) (flatP (Q0 ++ N))
  ok : ∀ p ∈ N, p.ok d wb
  below : Below wb.heap.size wb wr
  box : At wr P 100 #[.pointer (some ⟨q.b, q.o, none⟩), .pointer (some ⟨q.b', q.o', none⟩)]
  apart : t.ownBlock ≠ some P
  lt : wb.heap.size ≤ P
theorem More.step {d : Nat} {wb : World} {q : PP} {Q0 : List PP} {P : Nat} {t : Value} {wr w1 w2 : World} {N : List PP} (h : More d wb q Q0 P t wr N) (r : PP) (hr : r.ok d wb) {g cap : Nat} {H : Nat}
    (hown : w2.ownsRow wb.heap.size 100 2 (.slice (some ⟨g, 0, none⟩) (Q0.length + N.length + 1) cap) (Q0.length + N.length + 1) (flatP (Q0 ++ N) ++ r.cells)) (hgrow : w1.grownBy w2 t.ownBlock) (hat : t.ownBlock = some g ∨ g = H) (hH : wr.heap.size ≤ H) (hsz : wr.heap.size ≤ w1.heap.size)
    (hb1 : Below wr.heap.size wr w1) : More d wb q Q0 P (.slice (some ⟨g, 0, none⟩) (Q0.length + N.length + 1) cap) w2 (N ++ [r]) := by
  have hPl := h.box.lt
  refine ⟨?_, ?_, ?_, ?_, ?_, h.lt⟩
  · rw [List.length_append, ← List.append_assoc, flatP_append, flatP_one, List.length_singleton, ← Nat.add_assoc]; exact hown
  · intro p hp
    rcases List.mem_append.1 hp with hp | hp
    · exact h.ok p hp
    · rw [List.mem_singleton.1 hp]; exact hr
  · exact (h.below.trans (hb1.mono h.below.size)).grown hgrow (Nat.le_trans h.below.size hsz) (fun k hk => (h.own.lt k hk).1)
  · have := h.box.later hb1
    exact (hgrow.block P this.lt (Ne.symm h.apart)).trans this
  · intro e
    have e' : g = P := by simpa [Value.ownBlock] using e
    rcases hat with hat | hat
    · exact h.apart (by rw [hat, e'])
    · omega
theorem iff_snoc {N : List PP} {r : PP} {P : Nat → Prop} (h : (∀ p ∈ N, p.x = p.y) ↔ ∀ k : Nat, k < N.length → P k) (hr : r.x = r.y ↔ P N.length) : (∀ p ∈ N ++ [r], p.x = p.y) ↔ ∀ k : Nat, k < (N ++ [r]).length → P k := by
  rw [List.length_append, List.length_singleton]
  refine ⟨fun a k hk => ?_, fun a p hp => ?_⟩
  · by_cases e : k = N.length
    · subst e; exact hr.1 (a r (by simp))
    · exact h.1 (fun p hp => a p (by simp [hp])) k (by omega)
  · rcases List.mem_append.1 hp with hp | hp
    · exact h.2 (fun k hk => a k (by omega)) p hp
    · rw [List.mem_singleton.1 hp]; exact hr.2 (a N.length (by omega))
theorem iff_done {N K Q0 : List PP} {q : PP} {P : Prop} (h : P ↔ ∀ p ∈ Q0 ++ [q], p.x = p.y) (hs : SameOut q.x q.y) (hN : (∀ p ∈ N, p.x = p.y) ↔ ∀ k : Nat, k < q.x.l.length → q.x.l[k]? = q.y.l[k]?) (hK : (∀ p ∈ K, p.x = p.y) ↔ ∀ k : Nat, k < q.x.f.length → (q.x.f[k]?).map (·.2) = (q.y.f[k]?).map (·.2)) :
    P ↔ ∀ p ∈ Q0 ++ (N ++ K), p.x = p.y := by
  rw [h]
  refine ⟨fun a p hp => ?_, fun a p hp => ?_⟩
  · have hq := a q (by simp)
    rcases List.mem_append.1 hp with hp | hp
    · exact a p (by simp [hp])
    rcases List.mem_append.1 hp with hp | hp
    · exact hN.2 (fun k _ => by rw [hq]) p hp
    · exact hK.2 (fun k _ => by rw [hq]) p hp
  · rcases List.mem_append.1 hp with hp | hp
    · exact a p (by simp [hp])
    · rw [List.mem_singleton.1 hp]
      exact v_ext hs (hN.1 fun p hp => a p (by simp [hp])) (hK.1 fun p hp => a p (by simp [hp]))
set_option maxHeartbeats 2000000 in
theorem vAlike_says {d : Nat} {w : World} (x y : V) (cs cs' : List Value) (hx : RepN d w x cs) (hy : RepN d w y cs') (hcx : x.cnt ≤ 1048576) :
    Calls Tryz.prog 25 #[.agg cs.toArray, .agg cs'.toArray] w fun e w' => AnsB e (x = y) ∧ Below w.heap.size w w' := by
  obtain ⟨i0, hi, hz0, hz1, hz2⟩ := info_parts infoP
  obtain ⟨e, rfl⟩ := hx.inv
  have HX := hid hx
  have HY := hid hy
  obtain ⟨al, af, cl, cf, rfl, _⟩ := hx
  obtain ⟨al', af', cl', cf', rfl, _⟩ := hy
  go_enter Tryz.func25, Tryz.ntmps25
  go_wp2_with fail
  have hbw : Below w.heap.size w ((w.alloc (.cells #[.int .i64 x.k, .int .i64 x.n, .string x.s, .slice al x.l.length cl, .slice af x.f.length cf] 40)).alloc (.cells #[.int .i64 y.k, .int .i64 y.n, .string y.s, .slice al' y.l.length cl', .slice af' y.f.length cf'] 40)) := by go_grown
  have A1 := (At.new w #[.int .i64 x.k, .int .i64 x.n, .string x.s, .slice al x.l.length cl, .slice af x.f.length cf] 40 rfl).alloc (.cells #[.int .i64 y.k, .int .i64 y.n, .string y.s, .slice al' y.l.length cl', .slice af' y.f.length cf'] 40)
  have A2 := At.new (w.alloc (.cells #[.int .i64 x.k, .int .i64 x.n, .string x.s, .slice al x.l.length cl, .slice af x.f.length cf] 40)) #[.int .i64 y.k, .int .i64 y.n, .string y.s, .slice al' y.l.length cl', .slice af' y.f.length cf'] 40 (b := w.heap.size + 1) (by simp)
  have hsz : ((w.alloc (.cells #[.int .i64 x.k, .int .i64 x.n, .string x.s, .slice al x.l.length cl, .slice af x.f.length cf] 40)).alloc (.cells #[.int .i64 y.k, .int .i64 y.n, .string y.s, .slice al' y.l.length cl', .slice af' y.f.length cf'] 40)).heap.size = w.heap.size + 1 + 1 := by simp
  generalize ((w.alloc (.cells #[.int .i64 x.k, .int .i64 x.n, .string x.s, .slice al x.l.length cl, .slice af x.f.length cf] 40)).alloc (.cells #[.int .i64 y.k, .int .i64 y.n, .string y.s, .slice al' y.l.length cl', .slice af' y.f.length cf'] 40)) = wb at *
  have HQ0 := hid (show PP.ok (e + 1) wb ⟨w.heap.size, 0, x, w.heap.size + 1, 0, y⟩ from ⟨by simp; omega, by simp; omega, ⟨_, fun i c hc => by rw [A1.cell]; simpa using hc, HX.out.later hbw⟩, ⟨_, fun i c hc => by rw [A2.cell]; simpa using hc, HY.out.later hbw⟩⟩)
  have HBW := hid hbw
  have HSZ := hid hsz
  clear hbw A1 A2 hsz
  go_loopg [5] x.cnt (fun k t wr => ∃ Q : List PP, Pend (e + 1) wb x y k t wr Q)
  case atStart =>
    refine ⟨[⟨w.heap.size, 0, x, w.heap.size + 1, 0, y⟩], by simp [leftP], ?_, by simpa using HQ0.out, by simp, (Below.refl _ _).alloc (Nat.le_refl _) _, hcx⟩
    have := World.ownsRow_lit (e := 100) wb #[.pointer (some ⟨w.heap.size, 0, none⟩), .pointer (some ⟨w.heap.size + 1, 0, none⟩)] 1 (size := 2) (Nat.le_refl wb.heap.size) (by decide) rfl
    rw [HSZ.out] at this ⊢
    simpa [flatP_one, PP.cells] using this
  case round =>
    obtain ⟨Q, hP⟩ := hrel
    obtain ⟨hleft, hown, hok, hiff, hB, hk⟩ := hP
    rcases List.eq_nil_or_concat Q with rfl | ⟨Q0, q, rfl⟩
    all_goals try simp only [List.concat_eq_append] at hleft hown hok hiff
    all_goals
      have HIFF := hid hiff
      have HOK := hid hok
      have HLEFT := hid hleft
      clear hiff hok hleft
    · obtain ⟨_, ⟨rfl, _⟩ | ⟨g, cap, cur, rfl, _⟩⟩ := hown
      all_goals
        go_wp2_with fail
        go_ret
        exact ⟨.yes (HIFF.out.2 (by simp)), HBW.out.trans (hB.mono HBW.out.size)⟩
    · rw [List.length_append, List.length_singleton, flatP_append, flatP_one] at hown
      obtain ⟨g, cap, rfl, hg1, hg2, hg3, hg4⟩ := own_form hown (by omega)
      have hc1 : wr.cell? ⟨g, Q0.length * 2, none⟩ = some (.pointer (some ⟨q.b, q.o, none⟩)) := by
        rw [hown.cellAt _ (by omega), List.getElem?_append_right (by rw [flatP_len]; omega), flatP_len]; simp [PP.cells]
      have hc2 : wr.cell? ⟨g, Q0.length * 2 + 1, none⟩ = some (.pointer (some ⟨q.b', q.o', none⟩)) := by
        rw [hown.cellAt _ (by omega), List.getElem?_append_right (by rw [flatP_len]; omega), flatP_len]; simp [PP.cells]
      have HPOP := hid (ownsRow_pop (flatP_len Q0) hown)
      have hQl : Q0.length ≤ 1048576 := by
        have := HLEFT.out
        have := leftP_ge Q0
        rw [leftP_append] at *
        omega
      obtain ⟨hqb, hqb', ⟨c, hcc, hrr⟩, ⟨c', hcc', hrr'⟩⟩ := HOK.out q (by simp)
      have HS := hid (fun (w1 : World) (h : Below wb.heap.size wb w1) => sameOutside_says (w := w1) q.x q.y q.b q.o q.b' q.o' c c' (hrr.later h) (hcc.later hqb h) (Nat.lt_of_lt_of_le hqb h.size) (hrr'.later h) (hcc'.later hqb' h) (Nat.lt_of_lt_of_le hqb' h.size))
      have hgm : cap ≤ 9223372036854775807 := by unfold maxLen at hg4; omega
      obtain ⟨al1, af1, cl1, cf1, rfl, ⟨_, hl1, hf1⟩, hL1, hF1⟩ := hrr
      obtain ⟨al2, af2, cl2, cf2, rfl, ⟨_, hl2, hf2⟩, hL2, hF2⟩ := hrr'
      have HP := hid (And.intro (And.intro hL1 hF1) (And.intro hL2 hF2))
      have HG := hid (And.intro (hcc 3 _ rfl) (And.intro (hcc 4 _ rfl) (And.intro (hcc' 3 _ rfl) (hcc' 4 _ rfl))))
      clear hown hg4 hcc hcc' hL1 hF1 hL2 hF2
      unfold maxLen at hl1 hf1 hl2 hf2
      have hB' := hB
      go_wp2_with (go_at_call 53; refine (HS.out _ (hB.alloc hB.size _)).mono ?_; rintro e w1 ⟨ha, hb1⟩; obtain ⟨r, rfl, hr1⟩ := ha.bool; have HR1 := hid hr1; clear hr1 ha; have hBw1 : Below wb.heap.size wb w1 := (hB.alloc hB.size _).trans (hb1.mono (by simp; have := hB.size; omega)); have hA6 := (At.new wr _ _ rfl).later hb1; have m6 := hA6.cell; have z6 := hA6.lt; have x3 := (hBw1.cell (p := ⟨q.b, q.o + 3, none⟩) hqb).trans HG.out.1; have x4 := (hBw1.cell (p := ⟨q.b, q.o + 4, none⟩) hqb).trans HG.out.2.1; cases r)
      · go_ret
        exact ⟨.no (fun h => by have := HR1.out.2 (by rw [(HIFF.out.1 h q (by simp))]; exact sameOut_refl _); cases this), HBW.out.trans (hBw1.mono HBW.out.size)⟩
      · have HM := hid (show More (e + 1) wb q Q0 wr.heap.size (.slice (some ⟨g, 0, none⟩) Q0.length cap) w1 [] from
          ⟨by simpa using World.ownsRow.kept (HPOP.out.alloc _) (row := none) ⟨hb1.os, hb1.tape, hb1.output, hb1.size, fun k hk _ => hb1.block k hk⟩ (by simp [Value.ownBlock]), by simp, hBw1, hA6, by simp [Value.ownBlock]; omega, hB.size⟩)
        have HSO := hid (HR1.out.1 (by first | rfl | trivial))
        clear hA6 m6 x3 x4 hBw1 hb1 HPOP HR1 hc1 hc2
        generalize wr.heap.size = P6 at *
        go_loopw [5, 37] (fun t i wr => ∃ N : List PP, More (e + 1) wb q Q0 P6 t wr N ∧ i = .int .i64 N.length ∧ N.length ≤ q.x.l.length ∧ leftP N = cntL (q.x.l.take N.length) ∧ ((∀ p ∈ N, p.x = p.y) ↔ ∀ k : Nat, k < N.length → q.x.l[k]? = q.y.l[k]?)) (fun _ i _ => q.x.l.length - (intOf i).toNat)
        case atStart => exact ⟨[], HM.out, rfl, Nat.zero_le _, by simp [leftP, cntL], by simp⟩
        case round =>
          obtain ⟨N, hM, rfl, hNl, hleft2, hiff2⟩ := hrel
          have HM2 := hid hM
          have HL2 := hid hleft2
          have HI2 := hid hiff2
          have m6 := hM.box.cell
          have z6 := hM.box.lt
          have x3 := (hM.below.cell (p := ⟨q.b, q.o + 3, none⟩) hqb).trans HG.out.1
          have x4 := (hM.below.cell (p := ⟨q.b, q.o + 4, none⟩) hqb).trans HG.out.2.1
          have y3 := (hM.below.cell (p := ⟨q.b', q.o' + 3, none⟩) hqb').trans HG.out.2.2.1
          have hlt1 := Nat.lt_of_lt_of_le hqb hM.below.size
          have hlt2 := Nat.lt_of_lt_of_le hqb' hM.below.size
          clear hM hleft2 hiff2
          by_cases hjl : N.length < q.x.l.length
          · have hjl' : (N.length : Int) < q.x.l.length := by omega
            have hjy : N.length < q.y.l.length := by have := HSO.out.2.2.2.1; omega
            have hjy' : (N.length : Int) < q.y.l.length := by omega
            have hN0 : (0 : Int) ≤ (N.length : Int) := by omega
            have hNm : N.length ≤ 1048576 := by
              have h1 := HL2.out
              have h2 := leftP_ge N
              have h3 := cntL_take_le q.x.l N.length
              have h4 := HLEFT.out
              have h5 := cnt_eq q.x
              rw [leftP_append] at h4
              simp [leftP] at h4
              omega
            obtain ⟨bl, off, c, rfl, hbl, hc, hr⟩ := HP.out.1.1 N.length q.x.l[N.length] (List.getElem?_eq_getElem hjl)
            obtain ⟨bl', off', c', rfl, hbl', hc', hr'⟩ := HP.out.2.1 N.length q.y.l[N.length] (List.getElem?_eq_getElem hjy)
            have HRO := hid (show PP.ok (e + 1) wb ⟨bl, off + N.length * 5, q.x.l[N.length], bl', off' + N.length * 5, q.y.l[N.length]⟩ from ⟨hbl, hbl', ⟨c, hc, hr.mono (by omega)⟩, ⟨c', hc', hr'.mono (by omega)⟩⟩)
            have hwb := HM2.out.below.size
            have n1 := m6 0
            have n2 := m6 1
            simp at n1 n2
            clear hc hr hc' hr'
            go_wp2_with fail
            go_region_held3 (fun w' => w'.cell? ⟨P6, 0, none⟩ = some (.pointer (some ⟨q.b, q.o, none⟩)) ∧ w'.cell? ⟨P6, 1, none⟩ = some (.pointer (some ⟨q.b', q.o', none⟩)) ∧ w'.cell? ⟨q.b, q.o + 3, none⟩ = some (.slice (some ⟨bl, off, none⟩) q.x.l.length cl1) ∧ w'.cell? ⟨q.b', q.o' + 3, none⟩ = some (.slice (some ⟨bl', off', none⟩) q.y.l.length cl2))
              (first | go_keep | exact ⟨HM3.out.box.cell 0, HM3.out.box.cell 1, (HM3.out.below.cell (p := ⟨q.b, q.o + 3, none⟩) hqb).trans HG.out.1, (HM3.out.below.cell (p := ⟨q.b', q.o' + 3, none⟩) hqb').trans HG.out.2.2.1⟩)
              ((refine step_append_lies _ (by rfl) (.tmp 40) (.tmp 56) 101 (by rfl) wb.heap.size 100 i0 _ 2 16 Tryz.underlying101 hi hz0 hz1 hz2 rfl (by omega) _ (Q0.length + N.length) (flatP (Q0 ++ N)) (by rfl) ((HM2.out.own.alloc _).drew) ⟨wr.heap.size, 0, none⟩ 1 1 [.pointer (some ⟨bl, off + N.length * 5, none⟩), .pointer (some ⟨bl', off' + N.length * 5, none⟩)] (by rfl) (by rfl) (World.news_of_block (cs := #[.pointer (some ⟨bl, off + N.length * 5, none⟩), .pointer (some ⟨bl', off' + N.length * 5, none⟩)]) (t := 100) (fr := (0, 0)) (heap_alloc_new wr _)) (by simp [Value.oneCell']) (by omega) (by unfold maxLen; omega) (by omega) (by simp; omega) (wr.heap.size + 1) (by simp) ?_; intro gg cap' w2 hown2 hgrow hat hlt; have HM3 := hid (HM2.out.step ⟨bl, off + N.length * 5, q.x.l[N.length], bl', off' + N.length * 5, q.y.l[N.length]⟩ HRO.out hown2 hgrow hat (by omega) (by simp) ((Below.refl _ _).alloc (Nat.le_refl _) _).drew); clear hown2 hgrow hat hlt))
            all_goals go_wp2_with fail
            all_goals go_roundw
            case rel =>
              refine ⟨N ++ [⟨bl, off + N.length * 5, q.x.l[N.length], bl', off' + N.length * 5, q.y.l[N.length]⟩], HM3.out, by rw [List.length_append]; go_num, by simp; omega, ?_, ?_⟩
              · rw [leftP_append, List.length_append, List.length_singleton, cntL_take _ _ _ (List.getElem?_eq_getElem hjl), HL2.out]; simp [leftP]
              · exact iff_snoc (P := fun k => q.x.l[k]? = q.y.l[k]?) HI2.out (by rw [List.getElem?_eq_getElem hjl, List.getElem?_eq_getElem hjy]; simp)
            case measure => simp [intOf]; omega
          · have hjl' : ¬ (N.length : Int) < q.x.l.length := by omega
            have hNe : N.length = q.x.l.length := by omega
            have HI3 := hid (show (∀ p ∈ N, p.x = p.y) ↔ ∀ k : Nat, k < q.x.l.length → q.x.l[k]? = q.y.l[k]? by rw [← hNe]; exact HI2.out)
            have HL3 := hid (show leftP N = cntL q.x.l by rw [HL2.out, List.take_of_length_le (by omega)])
            have n1 := m6 0
            have n2 := m6 1
            simp at n1 n2
            clear hNe HI2 HL2
            go_wp2_with fail
            clear n1 n2 m6 z6 x3 x4 y3 hlt1 hlt2
            go_loopw [5, 65] (fun t i wr => ∃ K : List PP, More (e + 1) wb q Q0 P6 t wr (N ++ K) ∧ i = .int .i64 K.length ∧ K.length ≤ q.x.f.length ∧ leftP K = cntF (q.x.f.take K.length) ∧ ((∀ p ∈ K, p.x = p.y) ↔ ∀ k : Nat, k < K.length → (q.x.f[k]?).map (·.2) = (q.y.f[k]?).map (·.2))) (fun _ i _ => q.x.f.length - (intOf i).toNat)
            case atStart => exact ⟨[], by simpa using HM2.out, rfl, Nat.zero_le _, by simp [leftP, cntF], by simp⟩
            case round =>
              clear HM2
              obtain ⟨K, hM, rfl, hKl, hleft2, hiff2⟩ := hrel
              have HM2 := hid hM
              have HL2 := hid hleft2
              have HI2 := hid hiff2
              have m6 := hM.box.cell
              have z6 := hM.box.lt
              have x4 := (hM.below.cell (p := ⟨q.b, q.o + 4, none⟩) hqb).trans HG.out.2.1
              have y4 := (hM.below.cell (p := ⟨q.b', q.o' + 4, none⟩) hqb').trans HG.out.2.2.2
              have hlt1 := Nat.lt_of_lt_of_le hqb hM.below.size
              have hlt2 := Nat.lt_of_lt_of_le hqb' hM.below.size
              clear hM hleft2 hiff2
              have hNm : N.length + K.length ≤ 1048576 := by
                have h1 := HL2.out
                have h2 := leftP_ge N
                have h2' := leftP_ge K
                have h3 := HL3.out
                have h3' := cntF_take_le q.x.f K.length
                have h4 := HLEFT.out
                have h5 := cnt_eq q.x
                rw [leftP_append] at h4
                simp [leftP] at h4
                omega
              by_cases hjl : K.length < q.x.f.length
              · have hjl' : (K.length : Int) < q.x.f.length := by omega
                have hfe : q.x.f.length = q.y.f.length := by have := congrArg List.length HSO.out.2.2.2.2; simpa using this
                have hjy : K.length < q.y.f.length := by omega
                have hjy' : (K.length : Int) < q.y.f.length := by omega
                have hN0 : (0 : Int) ≤ (K.length : Int) := by omega
                clear hfe
                obtain ⟨bl, off, c, rfl, hbl, _, _, hc, hr⟩ := HP.out.1.2 K.length q.x.f[K.length] (List.getElem?_eq_getElem hjl)
                obtain ⟨bl', off', c', rfl, hbl', _, _, hc', hr'⟩ := HP.out.2.2 K.length q.y.f[K.length] (List.getElem?_eq_getElem hjy)
                have HRO := hid (show PP.ok (e + 1) wb ⟨bl, off + K.length * 6 + 1, q.x.f[K.length].2, bl', off' + K.length * 6 + 1, q.y.f[K.length].2⟩ from ⟨hbl, hbl', ⟨c, hc, hr.mono (by omega)⟩, ⟨c', hc', hr'.mono (by omega)⟩⟩)
                have hwb := HM2.out.below.size
                have n1 := m6 0
                have n2 := m6 1
                simp at n1 n2
                clear hc hr hc' hr'
                go_wp2_with fail
                go_region_held3 (fun w' => w'.cell? ⟨P6, 0, none⟩ = some (.pointer (some ⟨q.b, q.o, none⟩)) ∧ w'.cell? ⟨P6, 1, none⟩ = some (.pointer (some ⟨q.b', q.o', none⟩)) ∧ w'.cell? ⟨q.b, q.o + 4, none⟩ = some (.slice (some ⟨bl, off, none⟩) q.x.f.length cf1) ∧ w'.cell? ⟨q.b', q.o' + 4, none⟩ = some (.slice (some ⟨bl', off', none⟩) q.y.f.length cf2))
                  (first | go_keep | exact ⟨HM3.out.box.cell 0, HM3.out.box.cell 1, (HM3.out.below.cell (p := ⟨q.b, q.o + 4, none⟩) hqb).trans HG.out.2.1, (HM3.out.below.cell (p := ⟨q.b', q.o' + 4, none⟩) hqb').trans HG.out.2.2.2⟩)
                  ((refine step_append_lies _ (by rfl) (.tmp 68) (.tmp 86) 101 (by rfl) wb.heap.size 100 i0 _ 2 16 Tryz.underlying101 hi hz0 hz1 hz2 rfl (by omega) _ (Q0.length + (N ++ K).length) (flatP (Q0 ++ (N ++ K))) (by rfl) ((HM2.out.own.alloc _).drew) ⟨wr.heap.size, 0, none⟩ 1 1 [.pointer (some ⟨bl, off + K.length * 6 + 1, none⟩), .pointer (some ⟨bl', off' + K.length * 6 + 1, none⟩)] (by rfl) (by rfl) (World.news_of_block (cs := #[.pointer (some ⟨bl, off + K.length * 6 + 1, none⟩), .pointer (some ⟨bl', off' + K.length * 6 + 1, none⟩)]) (t := 100) (fr := (0, 0)) (heap_alloc_new wr _)) (by simp [Value.oneCell']) (by omega) (by rw [List.length_append]; unfold maxLen; omega) (by rw [List.length_append]; omega) (by simp; omega) (wr.heap.size + 1) (by simp) ?_; intro gg cap' w2 hown2 hgrow hat hlt; have HM3 := hid (HM2.out.step ⟨bl, off + K.length * 6 + 1, q.x.f[K.length].2, bl', off' + K.length * 6 + 1, q.y.f[K.length].2⟩ HRO.out hown2 hgrow hat (by omega) (by simp) ((Below.refl _ _).alloc (Nat.le_refl _) _).drew); clear hown2 hgrow hat hlt))
                all_goals go_wp2_with fail
                all_goals go_roundw
                case rel =>
                  refine ⟨K ++ [⟨bl, off + K.length * 6 + 1, q.x.f[K.length].2, bl', off' + K.length * 6 + 1, q.y.f[K.length].2⟩], by rw [← List.append_assoc]; have h := HM3.out; rw [List.length_append] at h; exact h, by rw [List.length_append]; go_num, by simp; omega, ?_, ?_⟩
                  · rw [leftP_append, List.length_append, List.length_singleton, cntF_take _ _ _ (List.getElem?_eq_getElem hjl), HL2.out]; simp [leftP]
                  · exact iff_snoc (P := fun k => (q.x.f[k]?).map (·.2) = (q.y.f[k]?).map (·.2)) HI2.out (by rw [List.getElem?_eq_getElem hjl, List.getElem?_eq_getElem hjy]; simp)
                case measure => simp [intOf]; omega
              · have hjl' : ¬ (K.length : Int) < q.x.f.length := by omega
                have hKe : K.length = q.x.f.length := by omega
                have HI4 := hid (show (∀ p ∈ K, p.x = p.y) ↔ ∀ k : Nat, k < q.x.f.length → (q.x.f[k]?).map (·.2) = (q.y.f[k]?).map (·.2) by rw [← hKe]; exact HI2.out)
                have HL4 := hid (show leftP K = cntF q.x.f by rw [HL2.out, List.take_of_length_le (by omega)])
                clear hKe
                have hms : leftP (Q0 ++ (N ++ K)) < leftP (Q0 ++ [q]) := by
                  have h1 := HL3.out
                  have h2 := HL4.out
                  have h3 := cnt_eq q.x
                  rw [leftP_append, leftP_append, leftP_append, h1, h2]
                  simp [leftP]; omega
                have HMS := hid hms
                clear hms
                go_wp2_with fail
                go_roundg (leftP (Q0 ++ (N ++ K)))
                case measure => have := HMS.out; have := HLEFT.out; omega
                case rel =>
                  refine ⟨Q0 ++ (N ++ K), rfl, by simpa using HM2.out.own, fun p hp => ?_, iff_done HIFF.out HSO.out HI3.out HI4.out, HM2.out.below, by have := HMS.out; have := HLEFT.out; omega⟩
                  rcases List.mem_append.1 hp with hp | hp
                  · exact HOK.out p (by simp [hp])
                  · exact HM2.out.ok p hp
end Go.Proofs.YtflcibmjblioaaaGreatDoor

/-
  The program's own copy of a value.
-/
namespace Go.Proofs.YtflcibmjblioaaaGreatDoor
open Go.RowKit
set_option maxRecDepth 100000

theorem tree_not_row {w : World} {base n b : Nat} {t : Value} {xs : List Value} (h : w.ownsRow base 98 1 t n xs) (hb : Tree w b) : some b ≠ t.ownBlock := by
  obtain ⟨cs, ty, h1, h2⟩ := hb
  rcases h.2 with ⟨rfl, _⟩ | ⟨g, cap, cur, rfl, _, hg, _⟩
  · simp [Value.ownBlock]
  · intro e
    have e' : b = g := by simpa [Value.ownBlock] using e
    subst e'
    rw [h1] at hg
    cases hg
    rcases h2 with h2 | h2 <;> exact absurd h2 (by decide)
/-- A round, and how far its list of work has grown. -/
structure Going (w0 w : World) (p : Pl) (d : Nat) (al af : Option Addr) (cl cf bl bf : Nat) (base R1 : Nat) (P : List Pl) (t : Value) (wq : World) : Prop where
  split : Split w0 w p d al af cl cf bl bf wq
  own : wq.ownsRow base 98 1 t P.length (P.map Pl.ptr)
  box : At wq R1 40 #[.int .i64 0, .int .i64 0, .string ⟨#[]⟩, .slice none 0 0, .slice none 0 0]
  tree : Tree wq p.b
theorem Going.step {w0 w : World} {p : Pl} {d : Nat} {al af : Option Addr} {cl cf bl bf base R1 : Nat} {P : List Pl} {t : Value} {wq w1 w2 : World} (h : Going w0 w p d al af cl cf bl bf base R1 P t wq) (hb0 : w0.heap.size ≤ base) (q : Pl) {v' : Value}
    (hw1 : Below wq.heap.size wq w1) (hown : w2.ownsRow base 98 1 v' (P.length + 1) (P.map Pl.ptr ++ [q.ptr])) (hg : w1.grownBy w2 t.ownBlock) : Going w0 w p d al af cl cf bl bf base R1 (P ++ [q]) v' w2 := by
  have keep : ∀ b, Tree wq b → w2.heap[b]? = wq.heap[b]? := fun b hb => by
    rw [hg.block b (Nat.lt_of_lt_of_le hb.lt hw1.size) (tree_not_row h.own hb), hw1.block b hb.lt]
  have tr : ∀ b, Tree wq b → Tree w2 b := fun b ⟨cs, ty, h1, h2⟩ => ⟨cs, ty, (keep b ⟨cs, ty, h1, h2⟩).trans h1, h2⟩
  refine ⟨h.split.grow h.tree ?_ (Nat.le_trans hw1.size hg.size) keep, ?_, ?_, tr _ h.tree⟩
  · exact (h.split.below.trans (hw1.mono h.split.below.size)).grown hg (Nat.le_trans h.split.below.size hw1.size) (fun k hk => Nat.le_trans hb0 (h.own.lt k hk).1)
  · rw [List.length_append, List.map_append]; exact hown
  · exact (keep R1 ⟨_, _, h.box, .inl rfl⟩).trans h.box
theorem cntL_ge : ∀ l : List V, l.length ≤ cntL l
  | [] => by simp
  | x :: l => by
    have := cntL_ge l
    have : 1 ≤ x.cnt := by rw [cnt_eq]; omega
    rw [cntL]; simp; omega
theorem cntF_ge : ∀ l : List (ByteArray × V), l.length ≤ cntF l
  | [] => by simp
  | x :: l => by
    have := cntF_ge l
    have : 1 ≤ x.2.cnt := by rw [cnt_eq]; omega
    rw [cntF_cons]; simp; omega
/-- What copying holds on to between rounds. -/
structure Rounds (w : World) (r : Pl) (k : Nat) (t : Value) (wr : World) (P : List Pl) : Prop where
  left : leftC P = k
  own : wr.ownsRow (w.heap.size + 2) 98 1 t P.length (P.map Pl.ptr)
  copying : Copying w r (w.heap.size + 2) wr P
  far : ∀ p ∈ P, p.b ≠ w.heap.size + 1
  box : At wr (w.heap.size + 1) 40 #[.int .i64 0, .int .i64 0, .string ⟨#[]⟩, .slice none 0 0, .slice none 0 0]
  most : k ≤ 1048576
  size : w.heap.size + 2 ≤ wr.heap.size
theorem rounds_start {e : Nat} {w : World} {v : V} {al af : Option Addr} {cl cf : Nat} (hv : RepN (e + 1) w v [.int .i64 v.k, .int .i64 v.n, .string v.s, .slice al v.l.length cl, .slice af v.f.length cf]) (hcn : v.cnt ≤ 1048576) :
    Rounds w ⟨w.heap.size, 0, e + 1, v⟩ v.cnt (.slice (some ⟨w.heap.size + 1 + 1, 0, none⟩) 1 1) (((w.alloc (.cells #[.int .i64 v.k, .int .i64 v.n, .string v.s, .slice al v.l.length cl, .slice af v.f.length cf] 40)).alloc (.cells #[.int .i64 0, .int .i64 0, .string ⟨#[]⟩, .slice none 0 0, .slice none 0 0] 40)).alloc (.cells #[.pointer (some ⟨w.heap.size, 0, none⟩)] 98)) [⟨w.heap.size, 0, e + 1, v⟩] := by
  have A1 := ((At.new w #[.int .i64 v.k, .int .i64 v.n, .string v.s, .slice al v.l.length cl, .slice af v.f.length cf] 40 rfl).alloc (.cells #[.int .i64 0, .int .i64 0, .string ⟨#[]⟩, .slice none 0 0, .slice none 0 0] 40)).alloc (.cells #[.pointer (some ⟨w.heap.size, 0, none⟩)] 98)
  have A2 := (At.new (w.alloc (.cells #[.int .i64 v.k, .int .i64 v.n, .string v.s, .slice al v.l.length cl, .slice af v.f.length cf] 40)) #[.int .i64 0, .int .i64 0, .string ⟨#[]⟩, .slice none 0 0, .slice none 0 0] 40 (b := w.heap.size + 1) (by simp)).alloc (.cells #[.pointer (some ⟨w.heap.size, 0, none⟩)] 98)
  have hB : Below w.heap.size w (((w.alloc (.cells #[.int .i64 v.k, .int .i64 v.n, .string v.s, .slice al v.l.length cl, .slice af v.f.length cf] 40)).alloc (.cells #[.int .i64 0, .int .i64 0, .string ⟨#[]⟩, .slice none 0 0, .slice none 0 0] 40)).alloc (.cells #[.pointer (some ⟨w.heap.size, 0, none⟩)] 98)) := by go_grown
  refine ⟨by simp [leftC], ?_, ⟨hB, ?_, by simp, ?_⟩, by simp, A2, hcn, by simp⟩
  · have := World.ownsRow_lit (base := w.heap.size + 2) (e := 98) (size := 1) ((w.alloc (.cells #[.int .i64 v.k, .int .i64 v.n, .string v.s, .slice al v.l.length cl, .slice af v.f.length cf] 40)).alloc (.cells #[.int .i64 0, .int .i64 0, .string ⟨#[]⟩, .slice none 0 0, .slice none 0 0] 40)) #[.pointer (some ⟨w.heap.size, 0, none⟩)] 1 (by simp) (by decide) rfl
    simpa [Pl.ptr] using this
  · intro p hp
    rw [List.mem_singleton.1 hp]
    exact ⟨Nat.le_refl _, ⟨_, _, A1, .inl rfl⟩, _, fun i c hc => by rw [A1.cell]; simpa using hc, hv⟩
  · intro w' _ hD
    obtain ⟨h1, c, h2, h3⟩ := hD ⟨w.heap.size, 0, e + 1, v⟩ (by simp)
    exact ⟨h1, c, h2, h3.low (by simp)⟩
set_option maxHeartbeats 2000000 in
theorem copy_says {d : Nat} {w : World} {v : V} {cs : List Value} (hv : RepN d w v cs) (hcn : v.cnt ≤ 1048576) :
    Calls Tryz.prog 30 #[.agg cs.toArray] w fun e w' => ∃ c, e = .returned (.agg c.toArray) ∧ RepG d w.heap.size w' v c ∧ Below w.heap.size w w' := by
  obtain ⟨iP, hiP, hp0, hp1, hp2⟩ := info_parts infoPt
  obtain ⟨iV, hiV, hv0, hv1, hv2⟩ := info_parts infoV
  obtain ⟨iF, hiF, hf0, hf1, hf2⟩ := info_parts infoF
  obtain ⟨e, rfl⟩ := hv.inv
  have HV := hid hv
  obtain ⟨al, af, cl, cf, rfl, _⟩ := hv
  go_enter Tryz.func30, Tryz.ntmps30
  go_wp2_with fail
  go_loopg [3] v.cnt (fun k t wr => ∃ P : List Pl, Rounds w ⟨w.heap.size, 0, e + 1, v⟩ k t wr P)
  case atStart => exact ⟨_, rounds_start HV.out hcn⟩
  case round =>
    obtain ⟨P, hP⟩ := hrel
    rcases List.eq_nil_or_concat P with rfl | ⟨P0, p, rfl⟩
    · obtain ⟨_, hown, hC, _, hbox, _, hsz⟩ := hP
      obtain ⟨hl0, c, hc, hr⟩ := hC.good wr ⟨Nat.le_refl _, fun _ _ _ _ _ => rfl, fun _ _ _ _ _ h => h⟩ (by simp)
      have HR := hid hr
      have HB := hid hC.below
      obtain ⟨al1, af1, cl1, cf1, bl1, bf1, rfl, _⟩ := hr
      have g0 : wr.cell? ⟨w.heap.size, 0, none⟩ = _ := hc 0 _ rfl
      have g1 : wr.cell? ⟨w.heap.size, 1, none⟩ = _ := hc 1 _ rfl
      have g2 : wr.cell? ⟨w.heap.size, 2, none⟩ = _ := hc 2 _ rfl
      have g3 : wr.cell? ⟨w.heap.size, 3, none⟩ = _ := hc 3 _ rfl
      have g4 : wr.cell? ⟨w.heap.size, 4, none⟩ = _ := hc 4 _ rfl
      clear hc hC
      simp only at g0 g1 g2 g3 g4 hl0
      obtain ⟨_, ⟨rfl, _⟩ | ⟨g, cap, cur, rfl, _⟩⟩ := hown
      all_goals
        go_wp2_with (refine wpList_store_row rfl 40 (.tmp 2) (.tmp 75) rfl (w.heap.size + 1) #[.int .i64 v.k, .int .i64 v.n, .string v.s, .slice al1 v.l.length cl1, .slice af1 v.f.length cf1] rfl rfl 40 #[.int .i64 0, .int .i64 0, .string ⟨#[]⟩, .slice none 0 0, .slice none 0 0] hbox (by kernel_rfl) rfl (by simp [Value.oneCell']) ?_)
        have hA := hbox.setRow #[.int .i64 v.k, .int .i64 v.n, .string v.s, .slice al1 v.l.length cl1, .slice af1 v.f.length cf1]
        have rc := hA.cell
        refine bodyPost_ret (v := .agg #[.int .i64 v.k, .int .i64 v.n, .string v.s, .slice al1 v.l.length cl1, .slice af1 v.f.length cf1]) (by simp [results, Tryz.results30, go_sem, rc]) rfl ⟨[.int .i64 v.k, .int .i64 v.n, .string v.s, .slice al1 v.l.length cl1, .slice af1 v.f.length cf1], rfl, (HR.out.same (by simp [World.setRow]) (fun b hb _ => setRow_other wr (w.heap.size + 1) b _ (by omega))).low (by omega), below_setRow HB.out (by omega) _⟩
    · simp only [List.concat_eq_append] at hP
      have HP := hid hP
      obtain ⟨hleft, hown, hC, hfar, hbox, hmost, hsz⟩ := hP
      rw [List.length_append, List.length_singleton, List.map_append] at hown
      obtain ⟨g, cap, rfl, hg1, hg2, hg3, hg4⟩ := own_form hown (by omega)
      have hc1 : wr.cell? ⟨g, P0.length, none⟩ = some (.pointer (some ⟨p.b, p.o, none⟩)) := by
        rw [hown.cellAt _ (by omega), List.getElem?_append_right (by simp)]; simp [Pl.ptr]
      have hpop := ownsRow_pop (n := P0.length) (size := 1) (xs := P0.map Pl.ptr) (by simp) hown
      have hcnt := leftC_append P0 [p]
      have hP0 := leftC_ge P0
      have hpc := cnt_eq p.v
      have hlp : leftC [p] = p.v.cnt := by simp [leftC]
      have hQl : P0.length ≤ 1048576 := by omega
      have hpt := hC.todo p (by simp)
      obtain ⟨dd, hdd⟩ := hpt.2.2.choose_spec.2.inv
      obtain ⟨al0, af0, cl0, cf0, hcc, hszs, hL, hF⟩ := todo_cells hpt hdd
      have hpl := hpt.2.1.lt
      have hpw := hpt.1
      have hgp : g ≠ p.b := fun e => by
        have := tree_not_row hown hpt.2.1
        simp [Value.ownBlock] at this
        omega
      have hfz : ∀ o, wr.frozen? ⟨p.b, o, none⟩ = false := by
        obtain ⟨cs, t, h1, _⟩ := hpt.2.1
        exact fun o => frozen_of_row wr p.b o cs t h1
      have c3 : wr.cell? ⟨p.b, p.o + 3, none⟩ = some (.slice al0 p.v.l.length cl0) := hcc 3 _ rfl
      have c4 : wr.cell? ⟨p.b, p.o + 4, none⟩ = some (.slice af0 p.v.f.length cf0) := hcc 4 _ rfl
      have hl5 : p.v.l.length ≤ 1048576 := by
        have := cntL_ge p.v.l; omega
      have hf5 : p.v.f.length ≤ 1048576 := by
        have := cntF_ge p.v.f; omega
      have HX := hid (And.intro hL (And.intro hF (And.intro hdd (And.intro hpt hC))))
      have HCL := hid (cells_l hL hC.below)
      have HPOP := hid hpop
      have HCNT := hid (And.intro hleft (And.intro hcnt (And.intro hpc hlp)))
      have hfp : p.b ≠ w.heap.size + 1 := hfar p (by simp)
      have HFAR := hid hfar
      have hgm : cap ≤ 9223372036854775807 := by unfold maxLen at hg4; omega
      clear hown hpop hcnt hpc hlp hpt hdd hcc hszs hL hF hC hfar hleft hP0 hg4
      go_wp2_with (first
        | (at_builtin; refine wpClone rfl _ (.tmp 26) 37 40 rfl iV _ 5 80 Tryz.underlying37 hiV hv0 hv1 hv2 rfl (by decide) (by decide) rfl al0 p.v.l.length cl0 rfl hl5 HCL.out ?_; intro al1 cl1 w1 hk1; have e3 := (cell_grown (p.o + 3) hpl hk1.1).trans c3; have e4 := (cell_grown (p.o + 4) hpl hk1.1).trans c4; have ef := fun o => (World.frozen?_of_block (a := ⟨p.b, o, none⟩) (hk1.1.block p.b hpl (by simp))).trans (hfz o); have hpl1 := Nat.lt_of_lt_of_le hpl hk1.1.size; have HK1 := hid hk1; clear hk1)
        | (at_builtin; refine wpClone rfl _ (.tmp 34) 38 74 rfl iF _ 6 96 Tryz.underlying38 hiF hf0 hf1 hf2 rfl (by decide) (by decide) rfl af0 p.v.f.length cf0 rfl hf5 (cells_f HX.out.2.1 ((HX.out.2.2.2.2.below.grown HK1.out.1 HX.out.2.2.2.2.below.size (by simp)).setCell (p := ⟨p.b, p.o + 3, none⟩) hpw _)) ?_; intro af1 cf1 w3 hk3; have i3 : w3.cell? ⟨p.b, p.o + 3, none⟩ = some (.slice al1 p.v.l.length cl1) := (cell_grown (p.o + 3) (by rw [size_setCell]; exact hpl1) hk3.1).trans (World.cell?_setCell_same _ _ _ e3); have i4 : w3.cell? ⟨p.b, p.o + 4, none⟩ = some (.slice af0 p.v.f.length cf0) := (cell_grown (p.o + 4) (by rw [size_setCell]; exact hpl1) hk3.1).trans ((cell_setCell_ne (.inr (by omega))).trans e4); have hpl3 := Nat.lt_of_lt_of_le hpl1 (Nat.le_trans (by rw [size_setCell]; exact Nat.le_refl _) hk3.1.size); have ig := fun o => (World.frozen?_of_block (a := ⟨p.b, o, none⟩) (hk3.1.block p.b (by rw [size_setCell]; exact hpl1) (by simp))).trans ((World.frozen?_setCell _ _ _ _).trans (ef o)); have HK3 := hid hk3; clear hk3))
      obtain ⟨bl, bf, hS⟩ := split_of (cl := cl1) (cf := cf1) HX.out.2.2.2.2.below HX.out.2.2.2.1 ⟨_, c3⟩ ⟨_, c4⟩ HX.out.1 HX.out.2.1 HK1.out HK3.out
      have hG : Going w wr p dd al1 af1 cl1 cf1 bl bf (w.heap.size + 2) (w.heap.size + 1) P0 (.slice (some ⟨g, 0, none⟩) P0.length cap) (w3.setCell ⟨p.b, p.o + 4, none⟩ (.slice af1 p.v.f.length cf1)) := by
        have b1 := (HK1.out.1.block _ hbox.lt (by simp)).trans hbox
        have b2 := (Below.heap_setCell w1 ⟨p.b, p.o + 3, none⟩ (.slice al1 p.v.l.length cl1) (w.heap.size + 1) (by simpa using fun e => hfp e.symm)).trans b1
        have b3 := (HK3.out.1.block _ (Array.getElem?_eq_some_iff.1 b2).1 (by simp)).trans b2
        have b4 := (Below.heap_setCell w3 ⟨p.b, p.o + 4, none⟩ (.slice af1 p.v.f.length cf1) (w.heap.size + 1) (by simpa using fun e => hfp e.symm)).trans b3
        have o1 := World.ownsRow.kept HPOP.out HK1.out.1 (by simp [Value.ownBlock])
        have o2 := ownsRow_setCell_other o1 (a := ⟨p.b, p.o + 3, none⟩) (by simpa [Value.ownBlock] using hgp) (.slice al1 p.v.l.length cl1)
        have o3 := World.ownsRow.kept o2 HK3.out.1 (by simp [Value.ownBlock])
        have o4 := ownsRow_setCell_other o3 (a := ⟨p.b, p.o + 4, none⟩) (by simpa [Value.ownBlock] using hgp) (.slice af1 p.v.f.length cf1)
        exact ⟨hS, by simpa using o4, b4, hS.tree _ HX.out.2.2.2.1.2.1⟩
      have HG0 := hid hG
      generalize w3.setCell ⟨p.b, p.o + 4, none⟩ (.slice af1 p.v.f.length cf1) = w4 at *
      have HSZ := hid hsz
      obtain ⟨wo, hwo⟩ : ∃ wo : World, wo = wr := ⟨wr, rfl⟩
      rw [← hwo] at HG0 HX HSZ
      clear hwo
      clear hG hS HK1 HK3 HPOP i3 i4 ig e3 e4 ef c3 c4 hfz hc1 hpl1 hpl3 hpl hbox HCL hsz
      go_loopw [3, 43] (fun t i wq => ∃ j : Nat, i = .int .i64 j ∧ j ≤ p.v.l.length ∧ Going w wo p dd al1 af1 cl1 cf1 bl bf (w.heap.size + 2) (w.heap.size + 1) (P0 ++ plL bl dd (p.v.l.take j)) t wq) (fun _ i _ => p.v.l.length - (intOf i).toNat)
      case atStart => exact ⟨0, rfl, Nat.zero_le _, by simpa [plL] using HG0.out⟩
      case round =>
        obtain ⟨j, rfl, hj, hG⟩ := hrel
        have HG := hid hG
        have s3 := hG.split.s3
        have s4 := hG.split.s4
        have hplq := hG.tree.lt
        have hbl0 := hG.own.lt
        have hbq : w.heap.size + 2 ≤ wr.heap.size := Nat.le_trans HSZ.out hG.split.size
        have hlen : (P0 ++ plL bl dd (p.v.l.take j)).length = P0.length + j := by rw [List.length_append, plL_len, List.length_take]; omega
        have HLEN := hid hlen
        clear hG hbl0 hlen
        by_cases hjl : j < p.v.l.length
        · have hjl' : (j : Int) < p.v.l.length := by omega
          obtain ⟨rfl, _⟩ := HG.out.split.lAt j p.v.l[j] (List.getElem?_eq_getElem hjl)
          go_wp2_with (at_builtin; refine wpList_append_own _ rfl (.tmp 46) (.tmp 53) 108 rfl (w.heap.size + 2) 98 iP (.pointer none) 1 8 Tryz.underlying108 hiP hp0 hp1 hp2 rfl (by decide) _ _ _ rfl (HG.out.own.alloc _) ⟨wr.heap.size, 0, none⟩ 1 1 [.pointer (some ⟨bl, j * 5, none⟩)] rfl rfl ?c1 ?c2 ?c3 ?c4 ?c5 ?_)
          case c1 => first | (intro i u hi; exact one_new rfl i u hi) | (intro i u hi; exact hi)
          case c2 => first | rfl | (intro u hu; simp at hu; subst hu; rfl)
          case c3 => rw [HLEN.out]; unfold maxLen; omega
          case c4 => rw [HLEN.out]; omega
          case c5 => first | omega | (simp; omega)
          intro v' w2 hown' hgrow _
          have HG2 := hid (HG.out.step (by omega) ⟨bl, j * 5, dd, p.v.l[j]⟩ ((Below.refl _ _).alloc (Nat.le_refl _) _) (by simpa [Pl.ptr] using hown') hgrow)
          clear hown' hgrow
          go_wp2_with fail
          go_roundw
          case rel => exact ⟨j + 1, by go_num, by omega, by rw [plL_take _ _ _ _ hjl, ← List.append_assoc]; exact HG2.out⟩
          case measure => simp [intOf]; omega
        · have hjl' : ¬ (j : Int) < p.v.l.length := by omega
          have HGL := hid (show Going _ _ _ _ _ _ _ _ _ _ _ _ (P0 ++ plL bl dd p.v.l) _ _ by have := HG.out; rw [List.take_of_length_le (by omega)] at this; exact this)
          have HLL := hid (show (P0 ++ plL bl dd p.v.l).length = P0.length + p.v.l.length by rw [List.length_append, plL_len])
          clear HG HLEN
          go_wp2_with fail
          clear s3 s4 hplq hbq
          go_loopw [3, 61] (fun t i wq => ∃ j : Nat, i = .int .i64 j ∧ j ≤ p.v.f.length ∧ Going w wo p dd al1 af1 cl1 cf1 bl bf (w.heap.size + 2) (w.heap.size + 1) (P0 ++ plL bl dd p.v.l ++ plF bf dd (p.v.f.take j)) t wq) (fun _ i _ => p.v.f.length - (intOf i).toNat)
          case atStart => exact ⟨0, rfl, Nat.zero_le _, by simpa [plF] using HGL.out⟩
          case round =>
            obtain ⟨j, rfl, hj, hG⟩ := hrel
            have HG := hid hG
            have s4 := hG.split.s4
            have hplq := hG.tree.lt
            have hbq : w.heap.size + 2 ≤ wr.heap.size := Nat.le_trans HSZ.out hG.split.size
            have HLEN := hid (show (P0 ++ plL bl dd p.v.l ++ plF bf dd (p.v.f.take j)).length = P0.length + p.v.l.length + j by rw [List.length_append, HLL.out, plF_len, List.length_take]; omega)
            clear hG
            by_cases hjl : j < p.v.f.length
            · have hjl' : (j : Int) < p.v.f.length := by omega
              obtain ⟨rfl, _⟩ := HG.out.split.fAt j p.v.f[j] (List.getElem?_eq_getElem hjl)
              go_wp2_with (at_builtin; refine wpList_append_own _ rfl (.tmp 64) (.tmp 72) 108 rfl (w.heap.size + 2) 98 iP (.pointer none) 1 8 Tryz.underlying108 hiP hp0 hp1 hp2 rfl (by decide) _ _ _ rfl (HG.out.own.alloc _) ⟨wr.heap.size, 0, none⟩ 1 1 [.pointer (some ⟨bf, j * 6 + 1, none⟩)] rfl rfl ?d1 ?d2 ?d3 ?d4 ?d5 ?_)
              case d1 => first | (intro i u hi; exact one_new rfl i u hi) | (intro i u hi; exact hi)
              case d2 => first | rfl | (intro u hu; simp at hu; subst hu; rfl)
              case d3 => rw [HLEN.out]; unfold maxLen; omega
              case d4 => rw [HLEN.out]; omega
              case d5 => first | omega | (simp; omega)
              intro v' w2 hown' hgrow _
              have HG2 := hid (HG.out.step (by omega) ⟨bf, j * 6 + 1, dd, p.v.f[j].2⟩ ((Below.refl _ _).alloc (Nat.le_refl _) _) (by simpa [Pl.ptr] using hown') hgrow)
              clear hown' hgrow
              go_wp2_with fail
              go_roundw
              case rel => exact ⟨j + 1, by go_num, by omega, by rw [plF_take _ _ _ _ hjl, ← List.append_assoc]; exact HG2.out⟩
              case measure => simp [intOf]; omega
            · have hjl' : ¬ (j : Int) < p.v.f.length := by omega
              have HGF := hid (show Going _ _ _ _ _ _ _ _ _ _ _ _ (P0 ++ (plL bl dd p.v.l ++ plF bf dd p.v.f)) _ _ by have := HG.out; rw [List.take_of_length_le (by omega), List.append_assoc] at this; exact this)
              have hms : leftC (P0 ++ (plL bl dd p.v.l ++ plF bf dd p.v.f)) < gk := by
                obtain ⟨h1, h2, h3, h4⟩ := HCNT.out
                rw [leftC_append, leftC_append, plL_left, plF_left]
                omega
              have HMS := hid hms
              clear HG HLEN hms
              go_wp2_with fail
              go_roundg (leftC (P0 ++ (plL bl dd p.v.l ++ plF bf dd p.v.f)))
              case measure => exact HMS.out
              case rel =>
                refine ⟨P0 ++ (plL bl dd p.v.l ++ plF bf dd p.v.f), rfl, HGF.out.own, HX.out.2.2.2.2.round HX.out.2.2.1 HGF.out.split, fun q hq => ?_, HGF.out.box, by have := HMS.out; omega, hbq⟩
                have hz := HSZ.out
                have hge := HGF.out.split.ge
                rcases List.mem_append.1 hq with hq | hq
                · exact HFAR.out q (by simp [hq])
                rcases List.mem_append.1 hq with hq | hq
                · obtain ⟨i, x, _, rfl⟩ := mem_plL hq
                  show bl ≠ _
                  omega
                · obtain ⟨i, x, _, rfl⟩ := mem_plF hq
                  show bf ≠ _
                  omega
end Go.Proofs.YtflcibmjblioaaaGreatDoor
