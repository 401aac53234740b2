/-
  Joined: Vaa, Vc5, Vd3.
-/
import Derived.Test.YtfkjoppehbmomaaGreatDoorVz
import Derived.Deep.AppendLies
import Derived.Deep.LoopGhost
import Derived.WalkSmall
import Derived.Deep.RegionHeld3
import Derived.Test.YtfkjoppehbmomaaGreatDoorVc4
import Derived.Test.YtfkjoppehbmomaaGreatDoorVc1

/-
  The program's own answer to 'are two the same': pairs that are still to be looked at.
-/
namespace Go.Proofs.YtfkjoppehbmomaaGreatDoor
open Go.RowKit
set_option maxRecDepth 100000
attribute [local go_sem ↓] Go.wp_at_zero Go.wp_at_succ

theorem own_form {w : World} {base : Nat} {e : TypeId} {size : Nat} {v : Value} {n : Nat} {xs : List Value} (h : w.ownsRow base e size v n xs) (hn : 0 < n) :
    ∃ g cap, v = .slice (some ⟨g, 0, none⟩) n cap ∧ base ≤ g ∧ g < w.heap.size ∧ n ≤ cap ∧ cap ≤ maxLen := by
  rcases h.2 with ⟨_, h0⟩ | ⟨g, cap, cur, hv, hb, hg, h1, h2, _⟩
  · omega
  · exact ⟨g, cap, hv, hb, (Array.getElem?_eq_some_iff.1 hg).1, h1, h2⟩

/-- Two that are held against each other, and where they lie. -/
structure PP where
  b : Nat
  o : Nat
  x : V
  b' : Nat
  o' : Nat
  y : V
def PP.cells (q : PP) : List Value := [.pointer (some ⟨q.b, q.o, none⟩), .pointer (some ⟨q.b', q.o', none⟩)]
def PP.ok (d : Nat) (w : World) (q : PP) : Prop := q.b < w.heap.size ∧ q.b' < w.heap.size ∧ (∃ c, CellsAt w q.b q.o c ∧ RepN d w q.x c) ∧ ∃ c, CellsAt w q.b' q.o' c ∧ RepN d w q.y c
def flatP (l : List PP) : List Value := l.flatMap PP.cells
theorem flatP_append (l k : List PP) : flatP (l ++ k) = flatP l ++ flatP k := List.flatMap_append
theorem flatP_one (q : PP) : flatP [q] = q.cells := by simp [flatP]
theorem flatP_len (l : List PP) : (flatP l).length = l.length * 2 := by
  induction l with
  | nil => rfl
  | cons q l ih => rw [flatP, List.flatMap_cons, List.length_append, List.length_cons, show (List.flatMap PP.cells l).length = l.length * 2 from ih]; simp [PP.cells]; omega
/-- How much is still to be looked at. -/
def leftP (l : List PP) : Nat := (l.map fun q => q.x.cnt).sum
theorem leftP_append (l k : List PP) : leftP (l ++ k) = leftP l + leftP k := by simp [leftP]
theorem leftP_ge (l : List PP) : l.length ≤ leftP l := by
  induction l with
  | nil => simp
  | cons q l ih =>
    have : 1 ≤ q.x.cnt := by rw [cnt_eq]; omega
    simp [leftP] at *; omega
theorem v_ext {x y : V} (h : SameOut x y) (hl : ∀ k : Nat, k < x.l.length → x.l[k]? = y.l[k]?) (hf : ∀ k : Nat, k < x.f.length → (x.f[k]?).map (·.2) = (y.f[k]?).map (·.2)) : x = y := by
  obtain ⟨h1, h2, h3, h4, h5⟩ := h
  have hlen : x.f.length = y.f.length := by have := congrArg List.length h5; simpa using this
  refine V.ext' h1 h2 h3 (List.ext_getElem? fun k => ?_) (List.ext_getElem? fun k => ?_)
  · by_cases hk : k < x.l.length
    · exact hl k hk
    · rw [List.getElem?_eq_none (by omega), List.getElem?_eq_none (by omega)]
  · by_cases hk : k < x.f.length
    · have a := hf k hk
      have b := congrArg (fun l : List ByteArray => l[k]?) h5
      simp only [List.getElem?_map] at b
      rw [List.getElem?_eq_getElem hk, List.getElem?_eq_getElem (by omega)] at a b ⊢
      simp only [Option.map_some, Option.some.injEq] at a b
      exact congrArg some (Prod.ext b a)
    · rw [List.getElem?_eq_none (by omega), List.getElem?_eq_none (by omega)]
theorem sameOut_refl (x : V) : SameOut x x := ⟨rfl, rfl, rfl, rfl, rfl⟩
theorem infoP : (Tryz.prog.info? 61).map (fun i => (i.zero, i.size, i.bytes)) = some (some (.agg #[.pointer none, .pointer none]), 2, 16) := by kernel_rfl
/-- What is still to be looked at. -/
structure Pend (d : Nat) (wb : World) (x y : V) (k : Nat) (t : Value) (wr : World) (Q : List PP) : Prop where
  left : leftP Q = k
  own : wr.ownsRow wb.heap.size 61 2 t Q.length (flatP Q)
  ok : ∀ q ∈ Q, q.ok d wb
  iff : x = y ↔ ∀ q ∈ Q, q.x = q.y
  below : Below wb.heap.size wb wr
  most : k ≤ 1048576

/-- Pairs that one pair led to, so far. -/
structure More (d : Nat) (wb : World) (q : PP) (Q0 : List PP) (P : Nat) (t : Value) (wr : World) (N : List PP) : Prop where
  own : wr.ownsRow wb.heap.size 61 2 t (Q0.length + N.length) (flatP (Q0 ++ N))
  ok : ∀ p ∈ N, p.ok d wb
  below : Below wb.heap.size wb wr
  box : At wr P 61 #[.pointer (some ⟨q.b, q.o, none⟩), .pointer (some ⟨q.b', q.o', none⟩)]
  apart : t.ownBlock ≠ some P
  lt : wb.heap.size ≤ P
theorem More.step {d : Nat} {wb : World} {q : PP} {Q0 : List PP} {P : Nat} {t : Value} {wr w1 w2 : World} {N : List PP} (h : More d wb q Q0 P t wr N) (r : PP) (hr : r.ok d wb) {g cap : Nat} {H : Nat}
    (hown : w2.ownsRow wb.heap.size 61 2 (.slice (some ⟨g, 0, none⟩) (Q0.length + N.length + 1) cap) (Q0.length + N.length + 1) (flatP (Q0 ++ N) ++ r.cells)) (hgrow : w1.grownBy w2 t.ownBlock) (hat : t.ownBlock = some g ∨ g = H) (hH : wr.heap.size ≤ H) (hsz : wr.heap.size ≤ w1.heap.size)
    (hb1 : Below wr.heap.size wr w1) : More d wb q Q0 P (.slice (some ⟨g, 0, none⟩) (Q0.length + N.length + 1) cap) w2 (N ++ [r]) := by
  have hPl := h.box.lt
  refine ⟨?_, ?_, ?_, ?_, ?_, h.lt⟩
  · rw [List.length_append, ← List.append_assoc, flatP_append, flatP_one, List.length_singleton, ← Nat.add_assoc]; exact hown
  · intro p hp
    rcases List.mem_append.1 hp with hp | hp
    · exact h.ok p hp
    · rw [List.mem_singleton.1 hp]; exact hr
  · exact (h.below.trans (hb1.mono h.below.size)).grown hgrow (Nat.le_trans h.below.size hsz) (fun k hk => (h.own.lt k hk).1)
  · have := h.box.later hb1
    exact (hgrow.block P this.lt (Ne.symm h.apart)).trans this
  · intro e
    have e' : g = P := by simpa [Value.ownBlock] using e
    rcases hat with hat | hat
    · exact h.apart (by rw [hat, e'])
    · omega
theorem iff_snoc {N : List PP} {r : PP} {P : Nat → Prop} (h : (∀ p ∈ N, p.x = p.y) ↔ ∀ k : Nat, k < N.length → P k) (hr : r.x = r.y ↔ P N.length) : (∀ p ∈ N ++ [r], p.x = p.y) ↔ ∀ k : Nat, k < (N ++ [r]).length → P k := by
  rw [List.length_append, List.length_singleton]
  refine ⟨fun a k hk => ?_, fun a p hp => ?_⟩
  · by_cases e : k = N.length
    · subst e; exact hr.1 (a r (by simp))
    · exact h.1 (fun p hp => a p (by simp [hp])) k (by omega)
  · rcases List.mem_append.1 hp with hp | hp
    · exact h.2 (fun k hk => a k (by omega)) p hp
    · rw [List.mem_singleton.1 hp]; exact hr.2 (a N.length (by omega))
theorem iff_done {N K Q0 : List PP} {q : PP} {P : Prop} (h : P ↔ ∀ p ∈ Q0 ++ [q], p.x = p.y) (hs : SameOut q.x q.y) (hN : (∀ p ∈ N, p.x = p.y) ↔ ∀ k : Nat, k < q.x.l.length → q.x.l[k]? = q.y.l[k]?) (hK : (∀ p ∈ K, p.x = p.y) ↔ ∀ k : Nat, k < q.x.f.length → (q.x.f[k]?).map (·.2) = (q.y.f[k]?).map (·.2)) :
    P ↔ ∀ p ∈ Q0 ++ (N ++ K), p.x = p.y := by
  rw [h]
  refine ⟨fun a p hp => ?_, fun a p hp => ?_⟩
  · have hq := a q (by simp)
    rcases List.mem_append.1 hp with hp | hp
    · exact a p (by simp [hp])
    rcases List.mem_append.1 hp with hp | hp
    · exact hN.2 (fun k _ => by rw [hq]) p hp
    · exact hK.2 (fun k _ => by rw [hq]) p hp
  · rcases List.mem_append.1 hp with hp | hp
    · exact a p (by simp [hp])
    · rw [List.mem_singleton.1 hp]
      exact v_ext hs (hN.1 fun p hp => a p (by simp [hp])) (hK.1 fun p hp => a p (by simp [hp]))
set_option maxHeartbeats 2000000 in
theorem vAlike_says {d : Nat} {w : World} (x y : V) (cs cs' : List Value) (hx : RepN d w x cs) (hy : RepN d w y cs') (hcx : x.cnt ≤ 1048576) :
    Calls Tryz.prog 21 #[.agg cs.toArray, .agg cs'.toArray] w fun e w' => AnsB e (x = y) ∧ Below w.heap.size w w' := by
  obtain ⟨i0, hi, hz0, hz1, hz2⟩ := info_parts infoP
  obtain ⟨e, rfl⟩ := hx.inv
  have HX := hid hx
  have HY := hid hy
  obtain ⟨al, af, cl, cf, rfl, _⟩ := hx
  obtain ⟨al', af', cl', cf', rfl, _⟩ := hy
  go_enter Tryz.func21, Tryz.ntmps21
  go_wp2_with fail
  have hbw : Below w.heap.size w ((w.alloc (.cells #[.int .i64 x.k, .int .i64 x.n, .string x.s, .slice al x.l.length cl, .slice af x.f.length cf] 26)).alloc (.cells #[.int .i64 y.k, .int .i64 y.n, .string y.s, .slice al' y.l.length cl', .slice af' y.f.length cf'] 26)) := by go_grown
  have A1 := (At.new w #[.int .i64 x.k, .int .i64 x.n, .string x.s, .slice al x.l.length cl, .slice af x.f.length cf] 26 rfl).alloc (.cells #[.int .i64 y.k, .int .i64 y.n, .string y.s, .slice al' y.l.length cl', .slice af' y.f.length cf'] 26)
  have A2 := At.new (w.alloc (.cells #[.int .i64 x.k, .int .i64 x.n, .string x.s, .slice al x.l.length cl, .slice af x.f.length cf] 26)) #[.int .i64 y.k, .int .i64 y.n, .string y.s, .slice al' y.l.length cl', .slice af' y.f.length cf'] 26 (b := w.heap.size + 1) (by simp)
  have hsz : ((w.alloc (.cells #[.int .i64 x.k, .int .i64 x.n, .string x.s, .slice al x.l.length cl, .slice af x.f.length cf] 26)).alloc (.cells #[.int .i64 y.k, .int .i64 y.n, .string y.s, .slice al' y.l.length cl', .slice af' y.f.length cf'] 26)).heap.size = w.heap.size + 1 + 1 := by simp
  generalize ((w.alloc (.cells #[.int .i64 x.k, .int .i64 x.n, .string x.s, .slice al x.l.length cl, .slice af x.f.length cf] 26)).alloc (.cells #[.int .i64 y.k, .int .i64 y.n, .string y.s, .slice al' y.l.length cl', .slice af' y.f.length cf'] 26)) = wb at *
  have HQ0 := hid (show PP.ok (e + 1) wb ⟨w.heap.size, 0, x, w.heap.size + 1, 0, y⟩ from ⟨by simp; omega, by simp; omega, ⟨_, fun i c hc => by rw [A1.cell]; simpa using hc, HX.out.later hbw⟩, ⟨_, fun i c hc => by rw [A2.cell]; simpa using hc, HY.out.later hbw⟩⟩)
  have HBW := hid hbw
  have HSZ := hid hsz
  clear hbw A1 A2 hsz
  go_loopg [5] x.cnt (fun k t wr => ∃ Q : List PP, Pend (e + 1) wb x y k t wr Q)
  case atStart =>
    refine ⟨[⟨w.heap.size, 0, x, w.heap.size + 1, 0, y⟩], by simp [leftP], ?_, by simpa using HQ0.out, by simp, (Below.refl _ _).alloc (Nat.le_refl _) _, hcx⟩
    have := World.ownsRow_lit (e := 61) wb #[.pointer (some ⟨w.heap.size, 0, none⟩), .pointer (some ⟨w.heap.size + 1, 0, none⟩)] 1 (size := 2) (Nat.le_refl wb.heap.size) (by decide) rfl
    rw [HSZ.out] at this ⊢
    simpa [flatP_one, PP.cells] using this
  case round =>
    obtain ⟨Q, hP⟩ := hrel
    obtain ⟨hleft, hown, hok, hiff, hB, hk⟩ := hP
    rcases List.eq_nil_or_concat Q with rfl | ⟨Q0, q, rfl⟩
    all_goals try simp only [List.concat_eq_append] at hleft hown hok hiff
    all_goals
      have HIFF := hid hiff
      have HOK := hid hok
      have HLEFT := hid hleft
      clear hiff hok hleft
    · obtain ⟨_, ⟨rfl, _⟩ | ⟨g, cap, cur, rfl, _⟩⟩ := hown
      all_goals
        go_wp2_with fail
        go_ret
        exact ⟨.yes (HIFF.out.2 (by simp)), HBW.out.trans (hB.mono HBW.out.size)⟩
    · rw [List.length_append, List.length_singleton, flatP_append, flatP_one] at hown
      obtain ⟨g, cap, rfl, hg1, hg2, hg3, hg4⟩ := own_form hown (by omega)
      have hc1 : wr.cell? ⟨g, Q0.length * 2, none⟩ = some (.pointer (some ⟨q.b, q.o, none⟩)) := by
        rw [hown.cellAt _ (by omega), List.getElem?_append_right (by rw [flatP_len]; omega), flatP_len]; simp [PP.cells]
      have hc2 : wr.cell? ⟨g, Q0.length * 2 + 1, none⟩ = some (.pointer (some ⟨q.b', q.o', none⟩)) := by
        rw [hown.cellAt _ (by omega), List.getElem?_append_right (by rw [flatP_len]; omega), flatP_len]; simp [PP.cells]
      have HPOP := hid (ownsRow_pop (flatP_len Q0) hown)
      have hQl : Q0.length ≤ 1048576 := by
        have := HLEFT.out
        have := leftP_ge Q0
        rw [leftP_append] at *
        omega
      obtain ⟨hqb, hqb', ⟨c, hcc, hrr⟩, ⟨c', hcc', hrr'⟩⟩ := HOK.out q (by simp)
      have HS := hid (fun (w1 : World) (h : Below wb.heap.size wb w1) => sameOutside_says (w := w1) q.x q.y q.b q.o q.b' q.o' c c' (hrr.later h) (hcc.later hqb h) (Nat.lt_of_lt_of_le hqb h.size) (hrr'.later h) (hcc'.later hqb' h) (Nat.lt_of_lt_of_le hqb' h.size))
      have hgm : cap ≤ 9223372036854775807 := by unfold maxLen at hg4; omega
      obtain ⟨al1, af1, cl1, cf1, rfl, ⟨_, hl1, hf1⟩, hL1, hF1⟩ := hrr
      obtain ⟨al2, af2, cl2, cf2, rfl, ⟨_, hl2, hf2⟩, hL2, hF2⟩ := hrr'
      have HP := hid (And.intro (And.intro hL1 hF1) (And.intro hL2 hF2))
      have HG := hid (And.intro (hcc 3 _ rfl) (And.intro (hcc 4 _ rfl) (And.intro (hcc' 3 _ rfl) (hcc' 4 _ rfl))))
      clear hown hg4 hcc hcc' hL1 hF1 hL2 hF2
      unfold maxLen at hl1 hf1 hl2 hf2
      have hB' := hB
      go_wp2_with (go_at_call 32; refine (HS.out _ (hB.alloc hB.size _)).mono ?_; rintro e w1 ⟨ha, hb1⟩; obtain ⟨r, rfl, hr1⟩ := ha.bool; have HR1 := hid hr1; clear hr1 ha; have hBw1 : Below wb.heap.size wb w1 := (hB.alloc hB.size _).trans (hb1.mono (by simp; have := hB.size; omega)); have hA6 := (At.new wr _ _ rfl).later hb1; have m6 := hA6.cell; have z6 := hA6.lt; have x3 := (hBw1.cell (p := ⟨q.b, q.o + 3, none⟩) hqb).trans HG.out.1; have x4 := (hBw1.cell (p := ⟨q.b, q.o + 4, none⟩) hqb).trans HG.out.2.1; cases r)
      · go_ret
        exact ⟨.no (fun h => by have := HR1.out.2 (by rw [(HIFF.out.1 h q (by simp))]; exact sameOut_refl _); cases this), HBW.out.trans (hBw1.mono HBW.out.size)⟩
      · have HM := hid (show More (e + 1) wb q Q0 wr.heap.size (.slice (some ⟨g, 0, none⟩) Q0.length cap) w1 [] from
          ⟨by simpa using World.ownsRow.kept (HPOP.out.alloc _) (row := none) ⟨hb1.os, hb1.tape, hb1.output, hb1.size, fun k hk _ => hb1.block k hk⟩ (by simp [Value.ownBlock]), by simp, hBw1, hA6, by simp [Value.ownBlock]; omega, hB.size⟩)
        have HSO := hid (HR1.out.1 (by first | rfl | trivial))
        clear hA6 m6 x3 x4 hBw1 hb1 HPOP HR1 hc1 hc2
        generalize wr.heap.size = P6 at *
        go_loopw [5, 37] (fun t i wr => ∃ N : List PP, More (e + 1) wb q Q0 P6 t wr N ∧ i = .int .i64 N.length ∧ N.length ≤ q.x.l.length ∧ leftP N = cntL (q.x.l.take N.length) ∧ ((∀ p ∈ N, p.x = p.y) ↔ ∀ k : Nat, k < N.length → q.x.l[k]? = q.y.l[k]?)) (fun _ i _ => q.x.l.length - (intOf i).toNat)
        case atStart => exact ⟨[], HM.out, rfl, Nat.zero_le _, by simp [leftP, cntL], by simp⟩
        case round =>
          obtain ⟨N, hM, rfl, hNl, hleft2, hiff2⟩ := hrel
          have HM2 := hid hM
          have HL2 := hid hleft2
          have HI2 := hid hiff2
          have m6 := hM.box.cell
          have z6 := hM.box.lt
          have x3 := (hM.below.cell (p := ⟨q.b, q.o + 3, none⟩) hqb).trans HG.out.1
          have x4 := (hM.below.cell (p := ⟨q.b, q.o + 4, none⟩) hqb).trans HG.out.2.1
          have y3 := (hM.below.cell (p := ⟨q.b', q.o' + 3, none⟩) hqb').trans HG.out.2.2.1
          have hlt1 := Nat.lt_of_lt_of_le hqb hM.below.size
          have hlt2 := Nat.lt_of_lt_of_le hqb' hM.below.size
          clear hM hleft2 hiff2
          by_cases hjl : N.length < q.x.l.length
          · have hjl' : (N.length : Int) < q.x.l.length := by omega
            have hjy : N.length < q.y.l.length := by have := HSO.out.2.2.2.1; omega
            have hjy' : (N.length : Int) < q.y.l.length := by omega
            have hN0 : (0 : Int) ≤ (N.length : Int) := by omega
            have hNm : N.length ≤ 1048576 := by
              have h1 := HL2.out
              have h2 := leftP_ge N
              have h3 := cntL_take_le q.x.l N.length
              have h4 := HLEFT.out
              have h5 := cnt_eq q.x
              rw [leftP_append] at h4
              simp [leftP] at h4
              omega
            obtain ⟨bl, off, c, rfl, hbl, hc, hr⟩ := HP.out.1.1 N.length q.x.l[N.length] (List.getElem?_eq_getElem hjl)
            obtain ⟨bl', off', c', rfl, hbl', hc', hr'⟩ := HP.out.2.1 N.length q.y.l[N.length] (List.getElem?_eq_getElem hjy)
            have HRO := hid (show PP.ok (e + 1) wb ⟨bl, off + N.length * 5, q.x.l[N.length], bl', off' + N.length * 5, q.y.l[N.length]⟩ from ⟨hbl, hbl', ⟨c, hc, hr.mono (by omega)⟩, ⟨c', hc', hr'.mono (by omega)⟩⟩)
            have hwb := HM2.out.below.size
            have n1 := m6 0
            have n2 := m6 1
            simp at n1 n2
            clear hc hr hc' hr'
            go_wp2_with fail
            go_region_held3 (fun w' => w'.cell? ⟨P6, 0, none⟩ = some (.pointer (some ⟨q.b, q.o, none⟩)) ∧ w'.cell? ⟨P6, 1, none⟩ = some (.pointer (some ⟨q.b', q.o', none⟩)) ∧ w'.cell? ⟨q.b, q.o + 3, none⟩ = some (.slice (some ⟨bl, off, none⟩) q.x.l.length cl1) ∧ w'.cell? ⟨q.b', q.o' + 3, none⟩ = some (.slice (some ⟨bl', off', none⟩) q.y.l.length cl2))
              (first | go_keep | exact ⟨HM3.out.box.cell 0, HM3.out.box.cell 1, (HM3.out.below.cell (p := ⟨q.b, q.o + 3, none⟩) hqb).trans HG.out.1, (HM3.out.below.cell (p := ⟨q.b', q.o' + 3, none⟩) hqb').trans HG.out.2.2.1⟩)
              ((refine step_append_lies _ (by rfl) (.tmp 40) (.tmp 56) 62 (by rfl) wb.heap.size 61 i0 _ 2 16 Tryz.underlying62 hi hz0 hz1 hz2 rfl (by omega) _ (Q0.length + N.length) (flatP (Q0 ++ N)) (by rfl) ((HM2.out.own.alloc _).drew) ⟨wr.heap.size, 0, none⟩ 1 1 [.pointer (some ⟨bl, off + N.length * 5, none⟩), .pointer (some ⟨bl', off' + N.length * 5, none⟩)] (by rfl) (by rfl) (World.news_of_block (cs := #[.pointer (some ⟨bl, off + N.length * 5, none⟩), .pointer (some ⟨bl', off' + N.length * 5, none⟩)]) (t := 61) (fr := (0, 0)) (heap_alloc_new wr _)) (by simp [Value.oneCell']) (by omega) (by unfold maxLen; omega) (by omega) (by simp; omega) (wr.heap.size + 1) (by simp) ?_; intro gg cap' w2 hown2 hgrow hat hlt; have HM3 := hid (HM2.out.step ⟨bl, off + N.length * 5, q.x.l[N.length], bl', off' + N.length * 5, q.y.l[N.length]⟩ HRO.out hown2 hgrow hat (by omega) (by simp) ((Below.refl _ _).alloc (Nat.le_refl _) _).drew); clear hown2 hgrow hat hlt))
            all_goals go_wp2_with fail
            all_goals go_roundw
            case rel =>
              refine ⟨N ++ [⟨bl, off + N.length * 5, q.x.l[N.length], bl', off' + N.length * 5, q.y.l[N.length]⟩], HM3.out, by rw [List.length_append]; go_num, by simp; omega, ?_, ?_⟩
              · rw [leftP_append, List.length_append, List.length_singleton, cntL_take _ _ _ (List.getElem?_eq_getElem hjl), HL2.out]; simp [leftP]
              · exact iff_snoc (P := fun k => q.x.l[k]? = q.y.l[k]?) HI2.out (by rw [List.getElem?_eq_getElem hjl, List.getElem?_eq_getElem hjy]; simp)
            case measure => simp [intOf]; omega
          · have hjl' : ¬ (N.length : Int) < q.x.l.length := by omega
            have hNe : N.length = q.x.l.length := by omega
            have HI3 := hid (show (∀ p ∈ N, p.x = p.y) ↔ ∀ k : Nat, k < q.x.l.length → q.x.l[k]? = q.y.l[k]? by rw [← hNe]; exact HI2.out)
            have HL3 := hid (show leftP N = cntL q.x.l by rw [HL2.out, List.take_of_length_le (by omega)])
            have n1 := m6 0
            have n2 := m6 1
            simp at n1 n2
            clear hNe HI2 HL2
            go_wp2_with fail
            clear n1 n2 m6 z6 x3 x4 y3 hlt1 hlt2
            go_loopw [5, 65] (fun t i wr => ∃ K : List PP, More (e + 1) wb q Q0 P6 t wr (N ++ K) ∧ i = .int .i64 K.length ∧ K.length ≤ q.x.f.length ∧ leftP K = cntF (q.x.f.take K.length) ∧ ((∀ p ∈ K, p.x = p.y) ↔ ∀ k : Nat, k < K.length → (q.x.f[k]?).map (·.2) = (q.y.f[k]?).map (·.2))) (fun _ i _ => q.x.f.length - (intOf i).toNat)
            case atStart => exact ⟨[], by simpa using HM2.out, rfl, Nat.zero_le _, by simp [leftP, cntF], by simp⟩
            case round =>
              clear HM2
              obtain ⟨K, hM, rfl, hKl, hleft2, hiff2⟩ := hrel
              have HM2 := hid hM
              have HL2 := hid hleft2
              have HI2 := hid hiff2
              have m6 := hM.box.cell
              have z6 := hM.box.lt
              have x4 := (hM.below.cell (p := ⟨q.b, q.o + 4, none⟩) hqb).trans HG.out.2.1
              have y4 := (hM.below.cell (p := ⟨q.b', q.o' + 4, none⟩) hqb').trans HG.out.2.2.2
              have hlt1 := Nat.lt_of_lt_of_le hqb hM.below.size
              have hlt2 := Nat.lt_of_lt_of_le hqb' hM.below.size
              clear hM hleft2 hiff2
              have hNm : N.length + K.length ≤ 1048576 := by
                have h1 := HL2.out
                have h2 := leftP_ge N
                have h2' := leftP_ge K
                have h3 := HL3.out
                have h3' := cntF_take_le q.x.f K.length
                have h4 := HLEFT.out
                have h5 := cnt_eq q.x
                rw [leftP_append] at h4
                simp [leftP] at h4
                omega
              by_cases hjl : K.length < q.x.f.length
              · have hjl' : (K.length : Int) < q.x.f.length := by omega
                have hfe : q.x.f.length = q.y.f.length := by have := congrArg List.length HSO.out.2.2.2.2; simpa using this
                have hjy : K.length < q.y.f.length := by omega
                have hjy' : (K.length : Int) < q.y.f.length := by omega
                have hN0 : (0 : Int) ≤ (K.length : Int) := by omega
                clear hfe
                obtain ⟨bl, off, c, rfl, hbl, _, _, hc, hr⟩ := HP.out.1.2 K.length q.x.f[K.length] (List.getElem?_eq_getElem hjl)
                obtain ⟨bl', off', c', rfl, hbl', _, _, hc', hr'⟩ := HP.out.2.2 K.length q.y.f[K.length] (List.getElem?_eq_getElem hjy)
                have HRO := hid (show PP.ok (e + 1) wb ⟨bl, off + K.length * 6 + 1, q.x.f[K.length].2, bl', off' + K.length * 6 + 1, q.y.f[K.length].2⟩ from ⟨hbl, hbl', ⟨c, hc, hr.mono (by omega)⟩, ⟨c', hc', hr'.mono (by omega)⟩⟩)
                have hwb := HM2.out.below.size
                have n1 := m6 0
                have n2 := m6 1
                simp at n1 n2
                clear hc hr hc' hr'
                go_wp2_with fail
                go_region_held3 (fun w' => w'.cell? ⟨P6, 0, none⟩ = some (.pointer (some ⟨q.b, q.o, none⟩)) ∧ w'.cell? ⟨P6, 1, none⟩ = some (.pointer (some ⟨q.b', q.o', none⟩)) ∧ w'.cell? ⟨q.b, q.o + 4, none⟩ = some (.slice (some ⟨bl, off, none⟩) q.x.f.length cf1) ∧ w'.cell? ⟨q.b', q.o' + 4, none⟩ = some (.slice (some ⟨bl', off', none⟩) q.y.f.length cf2))
                  (first | go_keep | exact ⟨HM3.out.box.cell 0, HM3.out.box.cell 1, (HM3.out.below.cell (p := ⟨q.b, q.o + 4, none⟩) hqb).trans HG.out.2.1, (HM3.out.below.cell (p := ⟨q.b', q.o' + 4, none⟩) hqb').trans HG.out.2.2.2⟩)
                  ((refine step_append_lies _ (by rfl) (.tmp 68) (.tmp 86) 62 (by rfl) wb.heap.size 61 i0 _ 2 16 Tryz.underlying62 hi hz0 hz1 hz2 rfl (by omega) _ (Q0.length + (N ++ K).length) (flatP (Q0 ++ (N ++ K))) (by rfl) ((HM2.out.own.alloc _).drew) ⟨wr.heap.size, 0, none⟩ 1 1 [.pointer (some ⟨bl, off + K.length * 6 + 1, none⟩), .pointer (some ⟨bl', off' + K.length * 6 + 1, none⟩)] (by rfl) (by rfl) (World.news_of_block (cs := #[.pointer (some ⟨bl, off + K.length * 6 + 1, none⟩), .pointer (some ⟨bl', off' + K.length * 6 + 1, none⟩)]) (t := 61) (fr := (0, 0)) (heap_alloc_new wr _)) (by simp [Value.oneCell']) (by omega) (by rw [List.length_append]; unfold maxLen; omega) (by rw [List.length_append]; omega) (by simp; omega) (wr.heap.size + 1) (by simp) ?_; intro gg cap' w2 hown2 hgrow hat hlt; have HM3 := hid (HM2.out.step ⟨bl, off + K.length * 6 + 1, q.x.f[K.length].2, bl', off' + K.length * 6 + 1, q.y.f[K.length].2⟩ HRO.out hown2 hgrow hat (by omega) (by simp) ((Below.refl _ _).alloc (Nat.le_refl _) _).drew); clear hown2 hgrow hat hlt))
                all_goals go_wp2_with fail
                all_goals go_roundw
                case rel =>
                  refine ⟨K ++ [⟨bl, off + K.length * 6 + 1, q.x.f[K.length].2, bl', off' + K.length * 6 + 1, q.y.f[K.length].2⟩], by rw [← List.append_assoc]; have h := HM3.out; rw [List.length_append] at h; exact h, by rw [List.length_append]; go_num, by simp; omega, ?_, ?_⟩
                  · rw [leftP_append, List.length_append, List.length_singleton, cntF_take _ _ _ (List.getElem?_eq_getElem hjl), HL2.out]; simp [leftP]
                  · exact iff_snoc (P := fun k => (q.x.f[k]?).map (·.2) = (q.y.f[k]?).map (·.2)) HI2.out (by rw [List.getElem?_eq_getElem hjl, List.getElem?_eq_getElem hjy]; simp)
                case measure => simp [intOf]; omega
              · have hjl' : ¬ (K.length : Int) < q.x.f.length := by omega
                have hKe : K.length = q.x.f.length := by omega
                have HI4 := hid (show (∀ p ∈ K, p.x = p.y) ↔ ∀ k : Nat, k < q.x.f.length → (q.x.f[k]?).map (·.2) = (q.y.f[k]?).map (·.2) by rw [← hKe]; exact HI2.out)
                have HL4 := hid (show leftP K = cntF q.x.f by rw [HL2.out, List.take_of_length_le (by omega)])
                clear hKe
                have hms : leftP (Q0 ++ (N ++ K)) < leftP (Q0 ++ [q]) := by
                  have h1 := HL3.out
                  have h2 := HL4.out
                  have h3 := cnt_eq q.x
                  rw [leftP_append, leftP_append, leftP_append, h1, h2]
                  simp [leftP]; omega
                have HMS := hid hms
                clear hms
                go_wp2_with fail
                go_roundg (leftP (Q0 ++ (N ++ K)))
                case measure => have := HMS.out; have := HLEFT.out; omega
                case rel =>
                  refine ⟨Q0 ++ (N ++ K), rfl, by simpa using HM2.out.own, fun p hp => ?_, iff_done HIFF.out HSO.out HI3.out HI4.out, HM2.out.below, by have := HMS.out; have := HLEFT.out; omega⟩
                  rcases List.mem_append.1 hp with hp | hp
                  · exact HOK.out p (by simp [hp])
                  · exact HM2.out.ok p hp
end Go.Proofs.YtfkjoppehbmomaaGreatDoor

/-
  The program's own copy of a value.
-/
namespace Go.Proofs.YtfkjoppehbmomaaGreatDoor
open Go.RowKit
set_option maxRecDepth 100000

theorem tree_not_row {w : World} {base n b : Nat} {t : Value} {xs : List Value} (h : w.ownsRow base 59 1 t n xs) (hb : Tree w b) : some b ≠ t.ownBlock := by
  obtain ⟨cs, ty, h1, h2⟩ := hb
  rcases h.2 with ⟨rfl, _⟩ | ⟨g, cap, cur, rfl, _, hg, _⟩
  · simp [Value.ownBlock]
  · intro e
    have e' : b = g := by simpa [Value.ownBlock] using e
    subst e'
    rw [h1] at hg
    cases hg
    rcases h2 with h2 | h2 <;> exact absurd h2 (by decide)
/-- A round, and how far its list of work has grown. -/
structure Going (w0 w : World) (p : Pl) (d : Nat) (al af : Option Addr) (cl cf bl bf : Nat) (base R1 : Nat) (P : List Pl) (t : Value) (wq : World) : Prop where
  split : Split w0 w p d al af cl cf bl bf wq
  own : wq.ownsRow base 59 1 t P.length (P.map Pl.ptr)
  box : At wq R1 26 #[.int .i64 0, .int .i64 0, .string ⟨#[]⟩, .slice none 0 0, .slice none 0 0]
  tree : Tree wq p.b
theorem Going.step {w0 w : World} {p : Pl} {d : Nat} {al af : Option Addr} {cl cf bl bf base R1 : Nat} {P : List Pl} {t : Value} {wq w1 w2 : World} (h : Going w0 w p d al af cl cf bl bf base R1 P t wq) (hb0 : w0.heap.size ≤ base) (q : Pl) {v' : Value}
    (hw1 : Below wq.heap.size wq w1) (hown : w2.ownsRow base 59 1 v' (P.length + 1) (P.map Pl.ptr ++ [q.ptr])) (hg : w1.grownBy w2 t.ownBlock) : Going w0 w p d al af cl cf bl bf base R1 (P ++ [q]) v' w2 := by
  have keep : ∀ b, Tree wq b → w2.heap[b]? = wq.heap[b]? := fun b hb => by
    rw [hg.block b (Nat.lt_of_lt_of_le hb.lt hw1.size) (tree_not_row h.own hb), hw1.block b hb.lt]
  have tr : ∀ b, Tree wq b → Tree w2 b := fun b ⟨cs, ty, h1, h2⟩ => ⟨cs, ty, (keep b ⟨cs, ty, h1, h2⟩).trans h1, h2⟩
  refine ⟨h.split.grow h.tree ?_ (Nat.le_trans hw1.size hg.size) keep, ?_, ?_, tr _ h.tree⟩
  · exact (h.split.below.trans (hw1.mono h.split.below.size)).grown hg (Nat.le_trans h.split.below.size hw1.size) (fun k hk => Nat.le_trans hb0 (h.own.lt k hk).1)
  · rw [List.length_append, List.map_append]; exact hown
  · exact (keep R1 ⟨_, _, h.box, .inl rfl⟩).trans h.box
theorem cntL_ge : ∀ l : List V, l.length ≤ cntL l
  | [] => by simp
  | x :: l => by
    have := cntL_ge l
    have : 1 ≤ x.cnt := by rw [cnt_eq]; omega
    rw [cntL]; simp; omega
theorem cntF_ge : ∀ l : List (ByteArray × V), l.length ≤ cntF l
  | [] => by simp
  | x :: l => by
    have := cntF_ge l
    have : 1 ≤ x.2.cnt := by rw [cnt_eq]; omega
    rw [cntF_cons]; simp; omega
/-- What copying holds on to between rounds. -/
structure Rounds (w : World) (r : Pl) (k : Nat) (t : Value) (wr : World) (P : List Pl) : Prop where
  left : leftC P = k
  own : wr.ownsRow (w.heap.size + 2) 59 1 t P.length (P.map Pl.ptr)
  copying : Copying w r (w.heap.size + 2) wr P
  far : ∀ p ∈ P, p.b ≠ w.heap.size + 1
  box : At wr (w.heap.size + 1) 26 #[.int .i64 0, .int .i64 0, .string ⟨#[]⟩, .slice none 0 0, .slice none 0 0]
  most : k ≤ 1048576
  size : w.heap.size + 2 ≤ wr.heap.size
theorem rounds_start {e : Nat} {w : World} {v : V} {al af : Option Addr} {cl cf : Nat} (hv : RepN (e + 1) w v [.int .i64 v.k, .int .i64 v.n, .string v.s, .slice al v.l.length cl, .slice af v.f.length cf]) (hcn : v.cnt ≤ 1048576) :
    Rounds w ⟨w.heap.size, 0, e + 1, v⟩ v.cnt (.slice (some ⟨w.heap.size + 1 + 1, 0, none⟩) 1 1) (((w.alloc (.cells #[.int .i64 v.k, .int .i64 v.n, .string v.s, .slice al v.l.length cl, .slice af v.f.length cf] 26)).alloc (.cells #[.int .i64 0, .int .i64 0, .string ⟨#[]⟩, .slice none 0 0, .slice none 0 0] 26)).alloc (.cells #[.pointer (some ⟨w.heap.size, 0, none⟩)] 59)) [⟨w.heap.size, 0, e + 1, v⟩] := by
  have A1 := ((At.new w #[.int .i64 v.k, .int .i64 v.n, .string v.s, .slice al v.l.length cl, .slice af v.f.length cf] 26 rfl).alloc (.cells #[.int .i64 0, .int .i64 0, .string ⟨#[]⟩, .slice none 0 0, .slice none 0 0] 26)).alloc (.cells #[.pointer (some ⟨w.heap.size, 0, none⟩)] 59)
  have A2 := (At.new (w.alloc (.cells #[.int .i64 v.k, .int .i64 v.n, .string v.s, .slice al v.l.length cl, .slice af v.f.length cf] 26)) #[.int .i64 0, .int .i64 0, .string ⟨#[]⟩, .slice none 0 0, .slice none 0 0] 26 (b := w.heap.size + 1) (by simp)).alloc (.cells #[.pointer (some ⟨w.heap.size, 0, none⟩)] 59)
  have hB : Below w.heap.size w (((w.alloc (.cells #[.int .i64 v.k, .int .i64 v.n, .string v.s, .slice al v.l.length cl, .slice af v.f.length cf] 26)).alloc (.cells #[.int .i64 0, .int .i64 0, .string ⟨#[]⟩, .slice none 0 0, .slice none 0 0] 26)).alloc (.cells #[.pointer (some ⟨w.heap.size, 0, none⟩)] 59)) := by go_grown
  refine ⟨by simp [leftC], ?_, ⟨hB, ?_, by simp, ?_⟩, by simp, A2, hcn, by simp⟩
  · have := World.ownsRow_lit (base := w.heap.size + 2) (e := 59) (size := 1) ((w.alloc (.cells #[.int .i64 v.k, .int .i64 v.n, .string v.s, .slice al v.l.length cl, .slice af v.f.length cf] 26)).alloc (.cells #[.int .i64 0, .int .i64 0, .string ⟨#[]⟩, .slice none 0 0, .slice none 0 0] 26)) #[.pointer (some ⟨w.heap.size, 0, none⟩)] 1 (by simp) (by decide) rfl
    simpa [Pl.ptr] using this
  · intro p hp
    rw [List.mem_singleton.1 hp]
    exact ⟨Nat.le_refl _, ⟨_, _, A1, .inl rfl⟩, _, fun i c hc => by rw [A1.cell]; simpa using hc, hv⟩
  · intro w' _ hD
    obtain ⟨h1, c, h2, h3⟩ := hD ⟨w.heap.size, 0, e + 1, v⟩ (by simp)
    exact ⟨h1, c, h2, h3.low (by simp)⟩
end Go.Proofs.YtfkjoppehbmomaaGreatDoor

/-
  What a dictionary has by a name: the program's answer, and the document's.
-/
namespace Go.Proofs.YtfkjoppehbmomaaGreatDoor
open Go.RowKit
set_option maxRecDepth 100000

def V.zero : V := ⟨0, 0, ⟨#[]⟩, [], []⟩
theorem rep_zero (d : Nat) (w : World) : RepN (d + 1) w V.zero [.int .i64 0, .int .i64 0, .string ⟨#[]⟩, .slice none 0 0, .slice none 0 0] :=
  ⟨none, none, 0, 0, rfl, by unfold maxLen; simp [V.zero, ByteArray.size], fun i x h => by simp [V.zero] at h, fun i x h => by simp [V.zero] at h⟩
/-- What the first field of a name has. -/
def getF (name : ByteArray) : List (ByteArray × V) → Option V
  | [] => none
  | q :: l => if q.1.toList == name.toList then some q.2 else getF name l
theorem getF_none {name : ByteArray} : ∀ {f : List (ByteArray × V)}, (∀ q ∈ f, (q.1.toList == name.toList) = false) → getF name f = none
  | [], _ => rfl
  | q :: l, h => by rw [getF, h q (by simp)]; exact getF_none (fun p hp => h p (by simp [hp]))
theorem getF_some {name : ByteArray} : ∀ {f : List (ByteArray × V)} {i : Nat} {q : ByteArray × V}, f[i]? = some q → (q.1.toList == name.toList) = true → (∀ (j : Nat) (s : ByteArray × V), j < i → f[j]? = some s → (s.1.toList == name.toList) = false) → getF name f = some q.2
  | [], i, q, h, _, _ => by simp at h
  | p :: l, 0, q, h, hq, _ => by simp at h; subst h; rw [getF, hq]; rfl
  | p :: l, i + 1, q, h, hq, hj => by
    rw [getF, hj 0 p (by omega) rfl]
    exact getF_some (by simpa using h) hq (fun j s hlt hs => hj (j + 1) s (by omega) (by simpa using hs))
theorem cnt_memF : ∀ {l : List (ByteArray × V)} {q : ByteArray × V}, q ∈ l → q.2.cnt ≤ cntF l
  | p :: l, q, h => by
    rw [cntF_cons]
    rcases List.mem_cons.1 h with rfl | h
    · omega
    · have := cnt_memF h; omega

theorem rep_ones {d : Nat} {w : World} {v : V} {c : List Value} (h : RepN d w v c) : c.toArray.all (·.oneCell') = true := by
  obtain ⟨e, rfl⟩ := h.inv
  obtain ⟨_, _, _, _, rfl, _⟩ := h
  simp [Value.oneCell']
set_option maxHeartbeats 1000000 in
theorem rGet_says {d : Nat} {w : World} {v : V} {cs : List Value} (name : ByteArray) (hv : RepN d w v cs) :
    Calls Tryz.prog 86 #[.agg cs.toArray, .string name] w fun e w' => (∃ c, e = .returned (.tuple #[.agg c.toArray, .bool (getF name v.f).isSome]) ∧ RepN d w' ((getF name v.f).getD V.zero) c) ∧ Below w.heap.size w w' := by
  obtain ⟨e, rfl⟩ := hv.inv
  obtain ⟨al, af, cl, cf, rfl, ⟨_, _, hf⟩, _, hF⟩ := hv
  have HF := hid hF
  clear hF
  unfold maxLen at hf
  go_enter Tryz.func86, Tryz.ntmps86
  go_wp2_with fail
  go_loopw [6] (fun i wr => ∃ j : Nat, i = .int .i64 j ∧ j ≤ v.f.length ∧ (∀ (i : Nat) (q : ByteArray × V), i < j → v.f[i]? = some q → (q.1.toList == name.toList) = false) ∧ BoxV wr w.heap.size v al af cl cf ∧ At wr (w.heap.size + 1) 26 #[.int .i64 0, .int .i64 0, .string ⟨#[]⟩, .slice none 0 0, .slice none 0 0] ∧ Below w.heap.size w wr) (fun i _ => v.f.length - (intOf i).toNat)
  case atStart => exact ⟨0, rfl, Nat.zero_le _, fun i q hi => by omega, (At.new w _ _ rfl).alloc _, At.new (w.alloc _) _ _ (by simp), by go_grown⟩
  case round =>
    obtain ⟨j, rfl, hj, hz, hA, hR, hB⟩ := hrel
    have HZ := hid hz
    clear hz
    have mc := hA.cell
    have mz := hA.lt
    by_cases hjl : j < v.f.length
    · have hjl' : (j : Int) < v.f.length := by omega
      obtain ⟨b, off, c, rfl, hbl, _, hcn, hc, hr⟩ := HF.out j v.f[j] (List.getElem?_eq_getElem hjl)
      have hbr : b < wr.heap.size := Nat.lt_of_lt_of_le hbl hB.size
      obtain ⟨k1, n1, s1, a1, l1, c1, a2, l2, c2, rfl, g0, g1, g2, g3, g4⟩ := rep_cells (hr.later hB) (hc.later hbl hB)
      have gn := (hB.cell (p := ⟨b, off + j * 6, none⟩) hbl).trans hcn
      have HR := hid hr
      clear hr hc hcn
      cases hp : (v.f[j].1.toList == name.toList)
      · have HP := hid hp
        go_wp2_with fail
        go_roundw
        case rel =>
          refine ⟨j + 1, by go_num, by omega, fun i q hi hq => ?_, hA, hR, hB⟩
          by_cases hij : i = j
          · rw [hij, List.getElem?_eq_getElem hjl] at hq
            cases hq
            exact HP.out
          · exact HZ.out i q (by omega) hq
        case measure => simp [intOf]; omega
      · have HG := hid (getF_some (List.getElem?_eq_getElem hjl) hp HZ.out)
        go_wp2_with (refine wpList_store_row rfl 26 (.tmp 4) (.tmp 27) rfl (w.heap.size + 1) #[.int .i64 k1, .int .i64 n1, .string s1, .slice a1 l1 c1, .slice a2 l2 c2] rfl rfl 26 #[.int .i64 0, .int .i64 0, .string ⟨#[]⟩, .slice none 0 0, .slice none 0 0] hR (by kernel_rfl) rfl (by simp [Value.oneCell']) ?_)
        have rc := (hR.setRow #[.int .i64 k1, .int .i64 n1, .string s1, .slice a1 l1 c1, .slice a2 l2 c2]).cell
        refine bodyPost_ret (v := .tuple #[.agg #[.int .i64 k1, .int .i64 n1, .string s1, .slice a1 l1 c1, .slice a2 l2 c2], .bool true]) (by simp [results, Tryz.results86, go_sem, rc]) rfl ⟨⟨[.int .i64 k1, .int .i64 n1, .string s1, .slice a1 l1 c1, .slice a2 l2 c2], by rw [HG.out]; rfl, ?_⟩, below_setRow hB (by omega) _⟩
        rw [HG.out]
        exact (HR.out.later (below_setRow hB (by omega) _)).mono (by omega)
    · have hjl' : ¬ (j : Int) < v.f.length := by omega
      have HG := hid (getF_none (name := name) (f := v.f) (fun q hq => by
        obtain ⟨i, hi⟩ := List.getElem?_of_mem hq
        exact HZ.out i q (by have := (List.getElem?_eq_some_iff.1 hi).1; omega) hi))
      go_wp2_with (refine wpList_store_row rfl 26 (.tmp 4) (.tmp 28) rfl (w.heap.size + 1) #[.int .i64 0, .int .i64 0, .string ⟨#[]⟩, .slice none 0 0, .slice none 0 0] rfl rfl 26 #[.int .i64 0, .int .i64 0, .string ⟨#[]⟩, .slice none 0 0, .slice none 0 0] hR (by kernel_rfl) rfl (by simp [Value.oneCell']) ?_)
      go_wp2_with fail
      have rc := (hR.setRow #[.int .i64 0, .int .i64 0, .string ⟨#[]⟩, .slice none 0 0, .slice none 0 0]).cell
      refine bodyPost_ret (v := .tuple #[.agg #[.int .i64 0, .int .i64 0, .string ⟨#[]⟩, .slice none 0 0, .slice none 0 0], .bool false]) (by simp [results, Tryz.results86, go_sem, rc]) rfl ⟨⟨[.int .i64 0, .int .i64 0, .string ⟨#[]⟩, .slice none 0 0, .slice none 0 0], by rw [HG.out]; rfl, by rw [HG.out]; exact rep_zero e _⟩, below_setRow hB (by omega) _⟩
end Go.Proofs.YtfkjoppehbmomaaGreatDoor
