/-
  Glyphs in memory; what they are put in order by; those that have a text, from above (layout.fromAbove).
-/
import Derived.Test.YtogdfjkbkhnobaaSg
import Derived.Test.YtogdfjkbkhnobaaKb
import Derived.Test.YtogdfjkbkhnobaaShelf
import Derived.Maps.AppendAt
import Derived.Test.YtogdfjkbkhnobaaAp
namespace Go.Proofs.Ytogdfjkbkhnobaa
open Go.Shelf Go.RowKit Go.Lib Go.Sort
set_option maxRecDepth 1000000

/-- A glyph, plainly. -/
structure Gy where
  s : ByteArray
  ax : Int
  ay : Int
  ex : Int
  ey : Int
  sz : Int
  x0 : Int
  y0 : Int
  x1 : Int
  y1 : Int
abbrev Gy.cs (g : Gy) : List Value := [.string g.s, .int .i64 g.ax, .int .i64 g.ay, .int .i64 g.ex, .int .i64 g.ey, .int .i64 g.sz, .int .i64 g.x0, .int .i64 g.y0, .int .i64 g.x1, .int .i64 g.y1]
/-- Glyphs in memory. -/
def GyAt (w : World) (al : Option Addr) (L : List Gy) : Prop := ∀ i x, L[i]? = some x → ∃ b off, al = some ⟨b, off, none⟩ ∧ b < w.heap.size ∧ ∀ j u, x.cs[j]? = some u → w.cell? ⟨b, off + i * 10 + j, none⟩ = some u
theorem GyAt.later {w w' : World} {al : Option Addr} {L : List Gy} (h : GyAt w al L) (hB : Below w.heap.size w w') : GyAt w' al L := fun i x hx => by
  obtain ⟨b, off, h1, h2, h3⟩ := h i x hx
  exact ⟨b, off, h1, Nat.lt_of_lt_of_le h2 hB.size, fun j u hu => (hB.cell (p := ⟨b, off + i * 10 + j, none⟩) h2).trans (h3 j u hu)⟩
def gy0 : Gy := ⟨⟨#[]⟩, 0, 0, 0, 0, 0, 0, 0, 0, 0⟩
/-- The glyph of a number. -/
def gyA (L : List Gy) (z : Int) : Gy := L[z.toNat]?.getD gy0
theorem gyA_at {L : List Gy} {z : Int} (h0 : 0 ≤ z) (h1 : z < L.length) : L[z.toNat]? = some (gyA L z) := by
  unfold gyA
  rw [List.getElem?_eq_getElem (by omega : z.toNat < L.length)]
  rfl
theorem cmp_neg (x y : Int) : compareInt x y < 0 ↔ x < y := by
  unfold compareInt
  repeat' split
  all_goals omega
theorem eg_above : ∀ (args : Array Value) (w : World), (callFunc 27 args).run Try.prog w = .ok (.enter 27 args) w := enters_of Try.func27 (by kernel_rfl) rfl
set_option maxHeartbeats 4000000 in
theorem cmp_above {Bp blk c : Nat} {al : Option Addr} {L : List Gy} {w : World} (hp : w.cell? ⟨Bp, 0, none⟩ = some (.slice al L.length c)) (hpb : Bp ≠ blk) (hpl : Bp < w.heap.size) (hG : GyAt w al L) (hGb : ∀ b o, al = some ⟨b, o, none⟩ → b ≠ blk) :
    CmpIn 27 #[.pointer (some ⟨Bp, 0, none⟩)] (fun x y => compareInt (gyA L y).ay (gyA L x).ay) L.length w blk := by
  intro W hsz hcell x y x1 x2 y1 y2
  show Calls Try.prog 27 #[enI x, enI y, .pointer (some ⟨Bp, 0, none⟩)] W fun e w' => e = .returned (.int .i64 (compareInt (gyA L y).ay (gyA L x).ay)) ∧ ∃ q os, w' = grow (W.drewN q) os
  have mx := mixed
  obtain ⟨b, o, hal, hb, cx⟩ := hG x.toNat _ (gyA_at x1 x2)
  obtain ⟨b', o', hal', _, cy⟩ := hG y.toNat _ (gyA_at y1 y2)
  subst hal
  injection hal' with hal'
  injection hal' with e1 e2
  subst e1 e2
  have g0 := cell_grown (w := W) (a := ⟨Bp, 0, none⟩) (Nat.lt_of_lt_of_le hpl hsz) ((hcell _ _ hpb hpl).trans hp)
  have gx := cell_grown (w := W) (a := ⟨b, o + x.toNat * 10 + 2, none⟩) (Nat.lt_of_lt_of_le hb hsz) ((hcell _ _ (hGb _ _ rfl) hb).trans (cx 2 _ rfl))
  have gy := cell_grown (w := W) (a := ⟨b, o + y.toNat * 10 + 2, none⟩) (Nat.lt_of_lt_of_le hb hsz) ((hcell _ _ (hGb _ _ rfl) hb).trans (cy 2 _ rfl))
  have ex : ((x.toNat : Nat) : Int) = x := by omega
  have ey : ((y.toNat : Nat) : Int) = y := by omega
  have hx2 : x < (L.length : Int) := x2
  have hy2 : y < (L.length : Int) := y2
  generalize gyA L x = p at *
  generalize gyA L y = q at *
  have hc : ∀ (n : Nat) (os : Array Obj), Calls Try.prog 25 #[.int .i64 q.ay, .int .i64 p.ay] (grow (W.drewN n) os) fun e w' => e = .returned (.int .i64 (compareInt q.ay p.ay)) ∧ ∃ q os', w' = grow ((grow (W.drewN n) os).drewN q) os' := fun n os => (Try.cmp_Compare_int _ _ _).mono fun e w' ⟨he, hw⟩ => ⟨he, 0, #[], by rw [hw, grow_empty]; rfl⟩
  clear cx cy hG hGb hcell hp hb hpl ex ey
  go_enter Try.func27, Try.ntmps27
  go_wp2_with fail
  go_quiet_grown (first | (go_at_call 25; refine Calls.grown_of (hc _ _)))
  go_wp2_with fail
  go_ret
  exact ⟨rfl, nq, osq, rfl⟩
theorem eg_left : ∀ (args : Array Value) (w : World), (callFunc 24 args).run Try.prog w = .ok (.enter 24 args) w := enters_of Try.func24 (by kernel_rfl) rfl
set_option maxHeartbeats 4000000 in
theorem cmp_left {Bp blk c : Nat} {al : Option Addr} {L : List Gy} {w : World} (hp : w.cell? ⟨Bp, 0, none⟩ = some (.slice al L.length c)) (hpb : Bp ≠ blk) (hpl : Bp < w.heap.size) (hG : GyAt w al L) (hGb : ∀ b o, al = some ⟨b, o, none⟩ → b ≠ blk) :
    CmpIn 24 #[.pointer (some ⟨Bp, 0, none⟩)] (fun x y => compareInt (gyA L x).ax (gyA L y).ax) L.length w blk := by
  intro W hsz hcell x y x1 x2 y1 y2
  show Calls Try.prog 24 #[enI x, enI y, .pointer (some ⟨Bp, 0, none⟩)] W fun e w' => e = .returned (.int .i64 (compareInt (gyA L x).ax (gyA L y).ax)) ∧ ∃ q os, w' = grow (W.drewN q) os
  have mx := mixed
  obtain ⟨b, o, hal, hb, cx⟩ := hG x.toNat _ (gyA_at x1 x2)
  obtain ⟨b', o', hal', _, cy⟩ := hG y.toNat _ (gyA_at y1 y2)
  subst hal
  injection hal' with hal'
  injection hal' with e1 e2
  subst e1 e2
  have g0 := cell_grown (w := W) (a := ⟨Bp, 0, none⟩) (Nat.lt_of_lt_of_le hpl hsz) ((hcell _ _ hpb hpl).trans hp)
  have gx := cell_grown (w := W) (a := ⟨b, o + x.toNat * 10 + 1, none⟩) (Nat.lt_of_lt_of_le hb hsz) ((hcell _ _ (hGb _ _ rfl) hb).trans (cx 1 _ rfl))
  have gy := cell_grown (w := W) (a := ⟨b, o + y.toNat * 10 + 1, none⟩) (Nat.lt_of_lt_of_le hb hsz) ((hcell _ _ (hGb _ _ rfl) hb).trans (cy 1 _ rfl))
  have ex : ((x.toNat : Nat) : Int) = x := by omega
  have ey : ((y.toNat : Nat) : Int) = y := by omega
  have hx2 : x < (L.length : Int) := x2
  have hy2 : y < (L.length : Int) := y2
  generalize gyA L x = p at *
  generalize gyA L y = q at *
  have hc : ∀ (n : Nat) (os : Array Obj), Calls Try.prog 25 #[.int .i64 p.ax, .int .i64 q.ax] (grow (W.drewN n) os) fun e w' => e = .returned (.int .i64 (compareInt p.ax q.ax)) ∧ ∃ q os', w' = grow ((grow (W.drewN n) os).drewN q) os' := fun n os => (Try.cmp_Compare_int _ _ _).mono fun e w' ⟨he, hw⟩ => ⟨he, 0, #[], by rw [hw, grow_empty]; rfl⟩
  clear cx cy hG hGb hcell hp hb hpl ex ey
  go_enter Try.func24, Try.ntmps24
  go_wp2_with fail
  go_quiet_grown (first | (go_at_call 25; refine Calls.grown_of (hc _ _)))
  go_wp2_with fail
  go_ret
  exact ⟨rfl, nq, osq, rfl⟩
theorem infoI : (Try.prog.info? 3).map (fun i => (i.zero, i.size, i.bytes)) = some (some (.int .i64 0), 1, 8) := by kernel_rfl
section
variable {W : World} {ops : Array Oper} {rest : List Oper} {o : Oper} {act : Act} {Q : Exit → Act → World → Prop}
/-- One number more. -/
theorem wpAppI (hgd : o.guard = none) (s x : Operand) (ho : o.op = .call { callee := .builtin .append, args := #[s, x], argTypes := #[26, 26] })
    (B : Nat) (v : Value) (zs : List Int) (hs : act.eval s = v) (hown : OwnI W B v zs) (g : Nat) (z : Int) (hx : act.eval x = .slice (some ⟨g, 0, none⟩) 1 1) (hc : W.cell? ⟨g, 0, none⟩ = some (.int .i64 z)) (hlim : zs.length ≤ 100000000) (hB : B ≤ W.heap.size)
    (h : ∀ v' w', OwnI w' B v' (zs ++ [z]) → W.grownBy w' v.ownBlock → wpList Try.prog ops Q rest (act.put o.dst v') w') : wpList Try.prog ops Q (o :: rest) act W := by
  obtain ⟨iV, hiV, hv0, hv1, hv2⟩ := info_parts infoI
  refine wpList_append_own_at (P := Try.prog) _ hgd s x _ ho B _ iV _ 1 8 Try.underlying26 hiV hv0 hv1 hv2 rfl (by decide) v zs.length _ hs hown ⟨g, 0, none⟩ 1 1 [.int .i64 z] hx rfl (fun j u hj => ?_) (fun u hu => by rw [List.mem_singleton] at hu; subst hu; rfl) (by unfold maxLen; omega) (by omega) hB ?_
  · match j, hj with
    | 0, hj => injection hj with hj; subst hj; rw [Lib.add_plain]; exact hc
    | j + 1, hj => simp at hj
  · intro v' w' O2 g2 _ _
    exact h v' w' (by unfold OwnI; rw [List.length_append, List.map_append]; exact O2) g2
end
/-- Those of the first p that have a text. -/
def txP (L : List Gy) (p : Nat) : List Int := ((List.range p).filter fun i : Nat => decide (0 < (gyA L (i : Int)).s.size)).map fun i : Nat => (i : Int)
theorem txP_succ (L : List Gy) (p : Nat) : txP L (p + 1) = if 0 < (gyA L (p : Int)).s.size then txP L p ++ [(p : Int)] else txP L p := by
  unfold txP
  rw [List.range_succ, List.filter_append, List.map_append]
  by_cases h : 0 < (gyA L (p : Int)).s.size
  · rw [if_pos h]; simp [h]
  · rw [if_neg h]; simp [h]
theorem txP_mem {L : List Gy} {p : Nat} {z : Int} (h : z ∈ txP L p) : 0 ≤ z ∧ z < p := by
  unfold txP at h
  obtain ⟨i, hi, rfl⟩ := List.mem_map.1 h
  have := List.mem_range.1 (List.mem_filter.1 hi).1
  omega
theorem txP_len (L : List Gy) (p : Nat) : (txP L p).length ≤ p := by
  unfold txP
  rw [List.length_map]
  exact Nat.le_trans (List.length_filter_le _ _) (by simp)
theorem txP_pair (L : List Gy) (p : Nat) : (txP L p).Pairwise (fun x y => x < y) := by
  unfold txP
  rw [List.pairwise_map]
  refine List.Pairwise.imp (R := fun a b : Nat => a < b) (fun h => by omega) (List.Pairwise.filter _ List.pairwise_lt_range)
/-- From above; of the same height as they stood. -/
def LtY (L : List Gy) : Int → Int → Prop := Lt (fun z => -(gyA L z).ay) (fun x y => x < y)
theorem tieI : TieOk (fun x y : Int => x < y) := ⟨fun x y h => by omega, fun x y z h k => by omega⟩
set_option maxHeartbeats 4000000 in
theorem above_says (L : List Gy) (al : Option Addr) (c : Nat) (w : World) (hl : L.length ≤ 1000) (hG : GyAt w al L) :
    Calls Try.prog 21 #[.slice al L.length c] w fun e w' => ∃ v ts, e = .returned v ∧ ts.Perm (txP L L.length) ∧ ts.Pairwise (LtY L) ∧ OwnI w' (w.heap.size + 1) v ts ∧ Below w.heap.size w w' := by
  have HG := hid hG
  clear hG
  go_enter Try.func21, Try.ntmps21
  go_wp2_with fail
  go_loopw [3, 8] (fun v i wr => ∃ p : Nat, i = .int .i64 p ∧ p ≤ L.length ∧ OwnI wr (w.heap.size + 1) v (txP L p) ∧ At wr w.heap.size 22 #[.slice al L.length c] ∧ Below w.heap.size w wr) (fun _ i _ => L.length - (intOf i).toNat)
  case atStart => exact ⟨0, rfl, Nat.zero_le _, (show OwnI _ _ _ [] from World.ownsRow_nil _ _ _ _), At.new w _ _ rfl, by go_grown⟩
  case round =>
    obtain ⟨p, rfl, hp, hO, hA, hB⟩ := hrel
    by_cases hpl : p < L.length
    · have hpl' : (p : Int) < L.length := by omega
      obtain ⟨b, off, rfl, hb, cx⟩ := (HG.out.later hB) p _ (gyA_at (z := (p : Int)) (by omega) hpl')
      have c0 := cx 0 _ rfl
      have c1 := cx 1 _ rfl
      have c2 := cx 2 _ rfl
      have c3 := cx 3 _ rfl
      have c4 := cx 4 _ rfl
      have c5 := cx 5 _ rfl
      have c6 := cx 6 _ rfl
      have c7 := cx 7 _ rfl
      have c8 := cx 8 _ rfl
      have c9 := cx 9 _ rfl
      have HS := hid (txP_succ L p)
      have hln := txP_len L p
      have HA := hid hA
      have HO := hid hO
      have zB := hA.lt
      simp only [Nat.add_zero] at c0
      clear cx hO hA
      generalize gyA L (p : Int) = q at *
      generalize txP L p = zs at *
      by_cases h0 : 0 < q.s.size
      · have hne : (q.s.toList == []) = false := by
          rw [ByteArray.toList_eq, beq_eq_false_iff_ne]
          intro e
          have : q.s.data.toList.length = q.s.size := by simp
          rw [e] at this
          simp at this
          omega
        have e2 := HS.out
        rw [if_pos h0] at e2
        have HS2 := hid e2
        clear e2 HS
        go_wp2_with (at_builtin; go_loud (refine wpAppI rfl _ _ rfl (w.heap.size + 1) _ zs rfl (by exact (World.ownsRow.alloc (World.ownsRow.alloc HO.out _) _)) _ (p : Int) rfl (by simp) (by omega) (by simp; omega) ?_); intro v' w2 hO2 hg2)
        have hb2 := (Below.refl (w.heap.size + 1) _).grown hg2 (by simp; omega) (fun k hk => (World.ownsRow.lt HO.out k hk).1)
        have hA2 := (hb2.block w.heap.size (by omega)).trans ((HA.out.alloc _).alloc _)
        have hB2 := ((hB.alloc hB.size _).alloc (by simp; omega) _).trans (hb2.mono (Nat.le_succ _))
        have H2 := hid (And.intro hO2 (And.intro hA2 hB2))
        clear hO2 hg2 hb2 hA2 hB2 HO HA
        go_wp2_with fail
        go_roundw
        case rel => exact ⟨p + 1, by go_num, by omega, by rw [HS2.out]; exact H2.out.1, H2.out.2.1, H2.out.2.2⟩
        case measure => simp [intOf]; omega
      · have hne : (q.s.toList == []) = true := by
          have : q.s.data.toList.length = q.s.size := by simp
          rw [ByteArray.toList_eq, List.eq_nil_of_length_eq_zero (by omega : q.s.data.toList.length = 0)]
          rfl
        have e2 := HS.out
        rw [if_neg h0] at e2
        have HS2 := hid e2
        clear e2 HS
        go_wp2_with fail
        go_roundw
        case rel => exact ⟨p + 1, by go_num, by omega, by rw [HS2.out]; exact World.ownsRow.alloc HO.out _, HA.out.alloc _, hB.alloc hB.size _⟩
        case measure => simp [intOf]; omega
    · have hpl' : ¬ (p : Int) < L.length := by omega
      have e : p = L.length := by omega
      subst e
      have hln := txP_len L L.length
      have HC := hid (show ∀ blk, u3.ownBlock = some blk → CmpIn 27 #[.pointer (some ⟨w.heap.size, 0, none⟩)] (fun x y => compareInt (gyA L y).ay (gyA L x).ay) L.length wr blk from fun blk hk => by
        have hk1 := (World.ownsRow.lt hO blk hk).1
        by_cases h0 : L.length = 0
        · intro W _ _ x y x1 x2 _ _
          rw [h0] at x2
          omega
        · refine cmp_above (c := c) (by have := hA.cell 0; simpa using this) (by omega) hA.lt (HG.out.later hB) (fun b o e => ?_)
          obtain ⟨b2, o2, e2, hb2, _⟩ := HG.out 0 L[0] (List.getElem?_eq_getElem (by omega))
          rw [e] at e2
          injection e2 with e2
          injection e2 with e2
          omega)
      have HX := hid (sort_own (key := fun z => -(gyA L z).ay) (N := L.length) tieI eg_above (fun x y => by rw [cmp_neg]; omega) (txP L L.length) u3 wr hO HC.out (fun z hz => txP_mem hz) (txP_pair L L.length) (by omega))
      have HO := hid hO
      have HB := hid hB
      clear hO hB hA HC
      go_wp2_with (go_at_call 23; refine HX.out.mono ?_; rintro e w3 ⟨rfl, ts, h1, h2, h3, h4⟩; have H3 := hid (And.intro h1 (And.intro h2 (And.intro h3 h4))); clear h1 h2 h3 h4)
      go_ret
      exact ⟨_, ts, rfl, H3.out.1, H3.out.2.1, H3.out.2.2.1, HB.out.grown H3.out.2.2.2 HB.out.size (fun k hk => by have := (World.ownsRow.lt HO.out k hk).1; omega)⟩
end Go.Proofs.Ytogdfjkbkhnobaa
