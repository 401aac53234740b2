/-
  Joined: Of, Og, Oh.
-/
import Derived.Test.YtobpidmlgldnmaaGreatDoorOe
import Derived.Maps.AppendAt
import Derived.Deep.RegionLaw
import Derived.BigRegion
import Derived.Deep.RegionWith

/-
  The program's reader of operators: an operator more, a value more.
-/
namespace Go.Proofs.YtobpidmlgldnmaaGreatDoor
open Go.RowKit
set_option maxRecDepth 100000

/-- A reader of operators. -/
abbrev RdO (w : World) (P : Nat) (s : ByteArray) (j : Nat) (tO tA : Value) : Prop := At w P 84 #[.string s, .int .i64 j, tO, tA]
theorem own_sliceO {w : World} {B : Nat} {T : TypeId} {z : Nat} {t : Value} {n : Nat} {xs : List Value} (h : w.ownsRow B T z t n xs) : ∃ a c, t = .slice a n c := by
  rcases h.2 with ⟨rfl, h0⟩ | ⟨g, cap, cur, rfl, _⟩
  · exact ⟨none, 0, by rw [h0]⟩
  · exact ⟨_, cap, rfl⟩
theorem infoOp : (Tryz.prog.info? 41).map (fun i => (i.zero, i.size, i.bytes)) = some (some (.agg #[.string ⟨#[]⟩, .slice none 0 0]), 2, 40) := by kernel_rfl
section
variable {W : World} {ops : Array Oper} {o : Oper} {a : Act} {Q : Exit → Act → World → Prop}
/-- One more element of a row that the call owns, in a statement that draws its order. -/
theorem stepOwn {K : Act → World → Prop} {E : Prop} (hgd : o.guard = none) (s x : Operand) (t : TypeId) (ho : o.op = .call { callee := .builtin .append, args := #[s, x], argTypes := #[t, t] })
    (base : Nat) (e : TypeId) (i : TypeInfo) (z : Value) (size bytes : Nat) (ht : Tryz.prog.underlying t = some (.slice e)) (hi : Tryz.prog.info? e = some i) (hz : i.zero = some z)
    (hsize : i.size = size) (hby : i.bytes = bytes) (hzs : z.cells.size = size) (hsz : 0 < size)
    (v : Value) (n : Nat) (xs : List Value) (hs : a.eval s = v) (hown : W.ownsRow base e size v n xs)
    (ad : Addr) (m c : Nat) (news : List Value) (hx : a.eval x = .slice (some ad) m c) (hl : news.length = m * size) (hnews : ∀ j u, news[j]? = some u → W.cell? (ad.add j) = some u) (h1 : ∀ u ∈ news, u.oneCell' = true)
    (h63 : n + m ≤ maxLen) (hbytes : (n + m) * bytes ≤ 140737488355328) (hbase : base ≤ W.heap.size)
    (h : ∀ v' w', w'.ownsRow base e size v' (n + m) (xs ++ news) → W.grownBy w' v.ownBlock → (v'.ownBlock = v.ownBlock ∨ v'.ownBlock = some W.heap.size) → K (a.put o.dst v') w') :
    if Region.wanted o (yielded ops a.tmps) = true then Oper.wp Tryz.prog o a W K Q else E := by
  have hw : Region.wanted o (yielded ops a.tmps) = true := by simp [Region.wanted, hgd]
  rw [if_pos hw]
  obtain ⟨v', w', hr, h2, h3, _, h5⟩ := run_append_own_at (P := Tryz.prog) W base t o.type e i z size bytes ht hi hz hsize hby hzs hsz v n xs hown ad m c news hl hnews h1 h63 hbytes hbase
  unfold Oper.wp execOp
  simp only [ho, resolve, invoke, builtin, Sem.run_bind, Sem.run_pure, Result.andThen_ok, List.map_toArray, List.map_cons, List.map_nil, hs, hx, hr]
  exact h v' w' h2 h3 h5
end
set_option maxHeartbeats 1000000 in
theorem operatorM (P B : Nat) (s nm : ByteArray) (j : Nat) (tO tA : Value) (O : List OC) (A : List VC) (w : World) (hR : RdO w P s j tO tA) (hM : OpsM B w tO tA O A) (hn : O.length = 2000) :
    Calls Tryz.prog 58 #[.pointer (some ⟨P, 0, none⟩), .string nm] w fun e w' => e = .returned (.iface 68 (.int .i64 2)) ∧ w' = w := by
  obtain ⟨a, c, rfl⟩ := own_sliceO hM.ownO
  have c2 := hR.cell 2
  simp at c2
  rw [hn] at c2
  clear hM
  go_enter Tryz.func58, Tryz.ntmps58
  go_wp2
  go_ret
  exact ⟨rfl, rfl⟩
theorem own_some {w : World} {B : Nat} {T : TypeId} {z : Nat} {t : Value} {n : Nat} {xs : List Value} (h : w.ownsRow B T z t n xs) (hn : 0 < n) : ∃ g c, t = .slice (some ⟨g, 0, none⟩) n c ∧ B ≤ g ∧ g < w.heap.size := by
  rcases h.2 with ⟨_, h0⟩ | ⟨g, cap, cur, rfl, hb, hg, _⟩
  · omega
  · exact ⟨g, cap, rfl, hb, (Array.getElem?_eq_some_iff.1 hg).1⟩
theorem At.grown2 {w w2 : World} {P B : Nat} {T T2 : TypeId} {cs : Array Value} {o o' : Obj} {z n : Nat} {t : Value} {xs : List Value} (h : At w P T cs) (hP : P < B) (hown : w.ownsRow B T2 z t n xs) (hg : ((w.alloc o).alloc o').drew.grownBy w2 t.ownBlock) : At w2 P T cs := by
  have hne : some P ≠ t.ownBlock := fun e => by have := (hown.lt P e.symm).1; omega
  unfold At
  rw [hg.block P (by show P < ((w.alloc o).alloc o').heap.size; have := h.lt; simp; omega) hne]
  show ((w.alloc o).alloc o').heap[P]? = _
  rw [heap_alloc_old _ _ (by have := h.lt; simp; omega), heap_alloc_old _ _ h.lt]; exact h
/-- The last five cells of a row. -/
theorem last5 {w : World} {B n g c : Nat} {xs : List Value} {z0 z1 z2 z3 z4 : Value} (h : w.ownsRow B 38 5 (.slice (some ⟨g, 0, none⟩) (n + 1) c) (n + 1) (xs ++ [z0, z1, z2, z3, z4])) (hl : xs.length = n * 5) :
    (w.cell? ⟨g, n * 5, none⟩ = some z0 ∧ w.cell? ⟨g, n * 5 + 1, none⟩ = some z1 ∧ w.cell? ⟨g, n * 5 + 2, none⟩ = some z2 ∧ w.cell? ⟨g, n * 5 + 3, none⟩ = some z3 ∧ w.cell? ⟨g, n * 5 + 4, none⟩ = some z4) ∧ ∀ o, w.frozen? ⟨g, o, none⟩ = false := by
  have hk : ∀ i, i < 5 → w.cell? ⟨g, n * 5 + i, none⟩ = [z0, z1, z2, z3, z4][i]? := fun i hi => by
    rw [h.cellAt _ (by omega), List.getElem?_append_right (by omega), hl, show n * 5 + i - n * 5 = i by omega]
  refine ⟨⟨hk 0 (by omega), hk 1 (by omega), hk 2 (by omega), hk 3 (by omega), hk 4 (by omega)⟩, fun o => ?_⟩
  rcases h.2 with ⟨hq, _⟩ | ⟨g', cap, cur, hq, _, hg, _⟩
  · cases hq
  · cases hq; exact frozen_of_row w g o cur _ hg
theorem At.grown {w w2 : World} {P B : Nat} {T T2 : TypeId} {cs : Array Value} {o : Obj} {z n : Nat} {t : Value} {xs : List Value} (h : At w P T cs) (hP : P < B) (hown : w.ownsRow B T2 z t n xs) (hg : (w.alloc o).drew.grownBy w2 t.ownBlock) : At w2 P T cs := by
  have hne : some P ≠ t.ownBlock := fun e => by have := (hown.lt P e.symm).1; omega
  unfold At
  rw [hg.block P (by show P < (w.alloc o).heap.size; have := h.lt; simp; omega) hne]
  show (w.alloc o).heap[P]? = _
  rw [heap_alloc_old _ _ h.lt]; exact h
set_option maxHeartbeats 2000000 in
theorem operatorS (P B : Nat) (s nm : ByteArray) (j : Nat) (tO tA : Value) (O : List OC) (A : List VC) (w : World) (hP : P < B) (hR : RdO w P s j tO tA) (hM : OpsM B w tO tA O A) (hn : O.length < 2000) (hA : A.length ≤ 1000) (hnm : nm.size ≤ maxLen) :
    Calls Tryz.prog 58 #[.pointer (some ⟨P, 0, none⟩), .string nm] w fun e w' => e = .returned .nilIface ∧ Below P w w' ∧ ∃ tO', RdO w' P s j tO' (.slice none 0 0) ∧ OpsM B w' tO' (.slice none 0 0) (O ++ [((nm, A.map (·.1)), [.string nm, tA])]) [] := by
  obtain ⟨iV, hiV, hv0, hv1, hv2⟩ := info_parts infoOp
  obtain ⟨a, c, rfl⟩ := own_sliceO hM.ownO
  obtain ⟨aA, cA, rfl⟩ := own_sliceO hM.ownA
  have c2 := hR.cell 2
  have c3 := hR.cell 3
  have f2 := hR.free 2
  have f3 := hR.free 3
  have hlt := hR.lt
  simp at c2 c3
  have hn' : ¬ (O.length : Int) = 2000 := by omega
  have hn2 : ((O.length : Int) == 2000) = false := by simpa using hn'
  have HM := hid hM
  have HR := hid hR
  clear hM hR
  go_enter Tryz.func58, Tryz.ntmps58
  go_wp2
  go_region_law ((refine stepOwn (by rfl) (.tmp 16) (.tmp 23) 22 (by rfl) B 41 iV _ 2 40 Tryz.underlying22 hiV hv0 hv1 hv2 rfl (by decide) _ _ _ (by rfl) (HM.out.ownO.alloc _) ⟨w.heap.size, 0, none⟩ 1 1 [.string nm, .slice aA A.length cA] (by rfl) (by rfl) (fun j u hj => news_at rfl j u hj) (by simp [Value.oneCell']) (by unfold maxLen; omega) (by omega) (by have := HM.out.le; simp; omega) ?_; intro v' w2 hown2 hg2 hat2; obtain ⟨a', c', rfl⟩ := own_sliceO hown2; (have A2 := HR.out.grown hP HM.out.ownO hg2); (have d2 := A2.cell 2); (have e2 := A2.free 2); (have d3 := A2.cell 3); (have e3 := A2.free 3); simp at d2 d3))
  all_goals
    clear c2 c3 f2 f3
    go_wp2
    go_ret
    have hal : Below w.heap.size w (w.alloc (.cells #[.string nm, .slice aA A.length cA] 41)).drew := (below_box w _).drew
    have hM1 := HM.out.later hal
    have hM2 := hM1.addO hnm hA hown2 hg2 hat2
    have k2 : KeepBut P w2 ((w2.setCell ⟨P, 2, none⟩ (.slice a' (O.length + 1) c')).setCell ⟨P, 3, none⟩ (.slice none 0 0)) := ((KeepBut.refl P w2).set 2 _).set 3 _
    refine ⟨rfl, ?_, _, ?_, hM2.keep hP k2⟩
    · have hb2 : Below P w w2 := ⟨hg2.os, hg2.tape, hg2.output, Nat.le_trans hal.size hg2.size, fun k hk => by
        rw [hg2.block k (by have := hal.size; omega) (fun e => by have := (HM.out.ownO.lt k e.symm).1; omega)]; exact hal.block k (by omega)⟩
      exact (hb2.setCell (p := ⟨P, 2, none⟩) (Nat.le_refl _) _).setCell (p := ⟨P, 3, none⟩) (Nat.le_refl _) _
    · exact heap_setCell_same _ P 3 _ _ _ (heap_setCell_same w2 P 2 _ _ _ A2)
/-- Five cells of a row, written one by one. -/
def put5 (w : World) (g k : Nat) (v0 v1 v2 v3 v4 : Value) : World := ((((w.setCell ⟨g, k, none⟩ v0).setCell ⟨g, k + 1, none⟩ v1).setCell ⟨g, k + 2, none⟩ v2).setCell ⟨g, k + 3, none⟩ v3).setCell ⟨g, k + 4, none⟩ v4
theorem put5_size (w : World) (g k : Nat) (v0 v1 v2 v3 v4 : Value) : (put5 w g k v0 v1 v2 v3 v4).heap.size = w.heap.size := by simp [put5, World.setCell]
theorem put5_other (w : World) (g k : Nat) (v0 v1 v2 v3 v4 : Value) {b : Nat} (h : b ≠ g) : (put5 w g k v0 v1 v2 v3 v4).heap[b]? = w.heap[b]? := by
  unfold put5; rw [Below.heap_setCell _ _ _ _ h, Below.heap_setCell _ _ _ _ h, Below.heap_setCell _ _ _ _ h, Below.heap_setCell _ _ _ _ h, Below.heap_setCell _ _ _ _ h]
theorem set_os (w : World) (a : Addr) (v : Value) : (w.setCell a v).os = w.os := rfl
theorem set_tape (w : World) (a : Addr) (v : Value) : (w.setCell a v).tape = w.tape := rfl
theorem set_output (w : World) (a : Addr) (v : Value) : (w.setCell a v).output = w.output := rfl
theorem put5_env (w : World) (g k : Nat) (v0 v1 v2 v3 v4 : Value) : (put5 w g k v0 v1 v2 v3 v4).os = w.os ∧ (put5 w g k v0 v1 v2 v3 v4).tape = w.tape ∧ (put5 w g k v0 v1 v2 v3 v4).output = w.output := by
  unfold put5
  exact ⟨by simp only [set_os], by simp only [set_tape], by simp only [set_output]⟩
theorem put5_row {w : World} {g k : Nat} {T : TypeId} {cur : Array Value} (h : w.heap[g]? = some (.cells cur T (0, 0))) (v0 v1 v2 v3 v4 : Value) :
    (put5 w g k v0 v1 v2 v3 v4).heap[g]? = some (.cells (((((cur.setIfInBounds k v0).setIfInBounds (k + 1) v1).setIfInBounds (k + 2) v2).setIfInBounds (k + 3) v3).setIfInBounds (k + 4) v4) T (0, 0)) :=
  heap_setCell_same _ g (k + 4) _ _ v4 (heap_setCell_same _ g (k + 3) _ _ v3 (heap_setCell_same _ g (k + 2) _ _ v2 (heap_setCell_same _ g (k + 1) _ _ v1 (heap_setCell_same w g k _ _ v0 h))))
theorem put5_own {w : World} {B n g c : Nat} {xs : List Value} {z0 z1 z2 z3 z4 : Value} (h : w.ownsRow B 38 5 (.slice (some ⟨g, 0, none⟩) (n + 1) c) (n + 1) (xs ++ [z0, z1, z2, z3, z4])) (hl : xs.length = n * 5) (v0 v1 v2 v3 v4 : Value) :
    (put5 w g (n * 5) v0 v1 v2 v3 v4).ownsRow B 38 5 (.slice (some ⟨g, 0, none⟩) (n + 1) c) (n + 1) (xs ++ [v0, v1, v2, v3, v4]) := by
  refine ⟨by simpa using h.1, .inr ?_⟩
  rcases h.2 with ⟨hq, _⟩ | ⟨g', cap, cur, hq, hb, hg, hc, hm, hs, ht⟩
  · cases hq
  · cases hq
    refine ⟨g, c, _, rfl, hb, put5_row hg v0 v1 v2 v3 v4, hc, hm, by simpa using hs, ?_⟩
    simp only [Array.toList_setIfInBounds, List.take_set, ht, ← hl]
    simp
theorem set_like {w w' : World} {k : Nat} (h : w'.heap[k]? = w.heap[k]?) (g o : Nat) (v : Value) : (w'.setCell ⟨g, o, none⟩ v).heap[k]? = (w.setCell ⟨g, o, none⟩ v).heap[k]? := by
  simp only [World.setCell, Array.getElem?_modify, h]
theorem put5_like {w w' : World} {k : Nat} (h : w'.heap[k]? = w.heap[k]?) (g q : Nat) (v0 v1 v2 v3 v4 : Value) : (put5 w' g q v0 v1 v2 v3 v4).heap[k]? = (put5 w g q v0 v1 v2 v3 v4).heap[k]? := by
  unfold put5
  exact set_like (set_like (set_like (set_like (set_like h g _ _) g _ _) g _ _) g _ _) g _ _
set_option maxHeartbeats 1000000 in
theorem valueM (P B : Nat) (s : ByteArray) (j : Nat) (tO tA : Value) (O : List OC) (A : List VC) (y1 y2 y3 y4 y5 : Value) (w : World) (hR : RdO w P s j tO tA) (hM : OpsM B w tO tA O A) (hn : A.length = 8) :
    Calls Tryz.prog 60 #[.pointer (some ⟨P, 0, none⟩), .agg #[y1, y2, y3, y4, y5]] w fun e w' => e = .returned (.iface 68 (.int .i64 10)) ∧ Below P w w' := by
  obtain ⟨a, c, rfl⟩ := own_sliceO hM.ownA
  have c3 := hR.cell 3
  simp at c3
  rw [hn] at c3
  have hlt := hR.lt
  clear hM
  go_enter Tryz.func60, Tryz.ntmps60
  go_wp2
  go_ret
  exact ⟨rfl, by go_grown⟩
theorem valueEnd {P B : Nat} {s : ByteArray} {j : Nat} {tO : Value} {O : List OC} {A : List VC} {a : Option Addr} {c c' g : Nat} {v0 v1 v2 v3 v4 z0 z1 z2 z3 z4 : Value} {x : V} {w wa w2 : World} (hP : P < B) (hR : RdO w P s j tO (.slice a A.length c)) (hM : OpsM B w tO (.slice a A.length c) O A)
    (hx : RepIn (Free B w tO (.slice a A.length c)) 9 w x [v0, v1, v2, v3, v4]) (hal : Below w.heap.size w wa) (hown : w2.ownsRow B 38 5 (.slice (some ⟨g, 0, none⟩) (A.length + 1) c') (A.length + 1) (flatV A ++ [z0, z1, z2, z3, z4]))
    (hg : wa.grownBy w2 (Value.slice a A.length c).ownBlock) (hat : (Value.slice (some ⟨g, 0, none⟩) (A.length + 1) c').ownBlock = (Value.slice a A.length c).ownBlock ∨ (Value.slice (some ⟨g, 0, none⟩) (A.length + 1) c').ownBlock = some wa.heap.size) (hgB : B ≤ g) (_hgl : g < w2.heap.size) (A2 : RdO w2 P s j tO (.slice a A.length c)) :
    let wA := put5 (w2.setCell ⟨P, 3, none⟩ (.slice (some ⟨g, 0, none⟩) (A.length + 1) c')) g (A.length * 5) v0 v1 v2 v3 v4
    let wB := (put5 w2 g (A.length * 5) v0 v1 v2 v3 v4).setCell ⟨P, 3, none⟩ (.slice (some ⟨g, 0, none⟩) (A.length + 1) c')
    (Below P w wA ∧ RdO wA P s j tO (.slice (some ⟨g, 0, none⟩) (A.length + 1) c') ∧ OpsM B wA tO (.slice (some ⟨g, 0, none⟩) (A.length + 1) c') O (A ++ [(x, [v0, v1, v2, v3, v4])])) ∧
    (Below P w wB ∧ RdO wB P s j tO (.slice (some ⟨g, 0, none⟩) (A.length + 1) c') ∧ OpsM B wB tO (.slice (some ⟨g, 0, none⟩) (A.length + 1) c') O (A ++ [(x, [v0, v1, v2, v3, v4])])) := by
  intro wA wB
  have hlen : (flatV A).length = A.length * 5 := hM.ownA.1
  obtain ⟨w3, e3⟩ : ∃ w3, put5 w2 g (A.length * 5) v0 v1 v2 v3 v4 = w3 := ⟨_, rfl⟩
  have s3 : w3.heap.size = w2.heap.size := by rw [← e3, put5_size]
  obtain ⟨n3, m3, p3⟩ := put5_env w2 g (A.length * 5) v0 v1 v2 v3 v4
  rw [e3] at n3 m3 p3
  have o3 : ∀ b, b ≠ g → w3.heap[b]? = w2.heap[b]? := fun b hb => by rw [← e3, put5_other _ _ _ _ _ _ _ _ hb]
  have own3 := put5_own hown hlen v0 v1 v2 v3 v4
  rw [e3] at own3
  have g3 : wa.grownBy w3 (Value.slice a A.length c).ownBlock := by
    refine ⟨n3.trans hg.os, m3.trans hg.tape, p3.trans hg.output, by rw [s3]; exact hg.size, fun k hk hne => ?_⟩
    · have hkg : k ≠ g := by
        rcases hat with q | q
        · intro e; subst e; exact hne q
        · intro e; subst e; simp only [Value.ownBlock] at q; injection q with q; omega
      rw [o3 k hkg]; exact hg.block k hk hne
  have hM1 := hM.later hal
  have hx1 : RepIn (Free B wa tO (.slice a A.length c)) 9 wa x [v0, v1, v2, v3, v4] := (hx.agree hal.size fun b hb => hal.block b hb.2.1).mono fun b hb => ⟨hb.1, Nat.lt_of_lt_of_le hb.2.1 hal.size, hb.2.2⟩
  have hM3 := hM1.addV hx1 own3 g3 hat
  have hb2 : Below P w w2 := ⟨hg.os.trans hal.os, hg.tape.trans hal.tape, hg.output.trans hal.output, Nat.le_trans hal.size hg.size, fun k hk => by
    have hlt := hR.lt
    rw [hg.block k (by have := hal.size; omega) (fun e => by have := (hM.ownA.lt k e.symm).1; omega)]; exact hal.block k (by omega)⟩
  have hPg : P ≠ g := by omega
  have kB : KeepBut P w3 wB := by
    show KeepBut P w3 ((put5 w2 g (A.length * 5) v0 v1 v2 v3 v4).setCell ⟨P, 3, none⟩ (.slice (some ⟨g, 0, none⟩) (A.length + 1) c'))
    rw [e3]; exact (KeepBut.refl P w3).set 3 _
  have kA : KeepBut P w3 wA := by
    obtain ⟨nA, mA, pA⟩ := put5_env (w2.setCell ⟨P, 3, none⟩ (.slice (some ⟨g, 0, none⟩) (A.length + 1) c')) g (A.length * 5) v0 v1 v2 v3 v4
    refine ⟨nA.trans ((set_os _ _ _).trans n3.symm), mA.trans ((set_tape _ _ _).trans m3.symm), pA.trans ((set_output _ _ _).trans p3.symm), ?_, fun k hk hne => ?_⟩
    · show w3.heap.size ≤ (put5 _ g _ v0 v1 v2 v3 v4).heap.size
      rw [put5_size, s3]; simp [World.setCell]
    · rw [show w3.heap[k]? = (put5 w2 g (A.length * 5) v0 v1 v2 v3 v4).heap[k]? by rw [e3]]
      exact put5_like (Below.heap_setCell _ _ _ _ hne) g _ v0 v1 v2 v3 v4
  have b3 : Below P w w3 := ⟨n3.trans hb2.os, m3.trans hb2.tape, p3.trans hb2.output, by rw [s3]; exact hb2.size, fun k hk => by rw [o3 k (by omega)]; exact hb2.block k hk⟩
  have below : ∀ {wf : World}, KeepBut P w3 wf → Below P w wf := fun k => ⟨k.os.trans b3.os, k.tape.trans b3.tape, k.output.trans b3.output, Nat.le_trans b3.size k.size, fun i hi => (k.block i (by have := hR.lt; have := b3.size; omega) (by omega)).trans (b3.block i hi)⟩
  have A3 : RdO w3 P s j tO (.slice a A.length c) := (o3 P hPg).trans A2
  refine ⟨⟨below kA, ?_, hM3.keep hP kA⟩, below kB, ?_, hM3.keep hP kB⟩
  · exact (put5_other _ _ _ _ _ _ _ _ hPg).trans (heap_setCell_same w2 P 3 _ _ _ A2)
  · show RdO ((put5 w2 g (A.length * 5) v0 v1 v2 v3 v4).setCell ⟨P, 3, none⟩ (.slice (some ⟨g, 0, none⟩) (A.length + 1) c')) P s j tO _
    rw [e3]; exact heap_setCell_same w3 P 3 _ _ _ A3
set_option maxHeartbeats 2000000 in
theorem valueS (P B : Nat) (s : ByteArray) (j : Nat) (tO tA : Value) (O : List OC) (A : List VC) (k1 n1 : Int) (t1 : ByteArray) (a1 a2 : Option Addr) (l1 c1 l2 c2 : Nat) (x : V) (w : World) (hP : P < B) (hR : RdO w P s j tO tA) (hM : OpsM B w tO tA O A) (hA : A.length < 8)
    (hx : RepIn (Free B w tO tA) 9 w x [.int .i64 k1, .int .i64 n1, .string t1, .slice a1 l1 c1, .slice a2 l2 c2]) :
    Calls Tryz.prog 60 #[.pointer (some ⟨P, 0, none⟩), .agg #[.int .i64 k1, .int .i64 n1, .string t1, .slice a1 l1 c1, .slice a2 l2 c2]] w fun e w' => e = .returned .nilIface ∧ Below P w w' ∧ ∃ tA', RdO w' P s j tO tA' ∧ OpsM B w' tO tA' O (A ++ [(x, [.int .i64 k1, .int .i64 n1, .string t1, .slice a1 l1 c1, .slice a2 l2 c2])]) := by
  obtain ⟨iV, hiV, hv0, hv1, hv2⟩ := info_parts infoV
  obtain ⟨a, c, rfl⟩ := own_sliceO hM.ownA
  have c3 := hR.cell 3
  have f3 := hR.free 3
  have hlt := hR.lt
  simp at c3
  have hn' : ¬ (A.length : Int) = 8 := by omega
  have hn2 : ((A.length : Int) == 8) = false := by simpa using hn'
  have HM := hid hM
  have HR := hid hR
  have HX := hid hx
  clear hM hR hx
  go_enter Tryz.func60, Tryz.ntmps60
  go_wp2
  have hbd : (A.length : Int) < (A.length : Int) + 1 := by omega
  have hz1 : w.heap.size < (w.alloc (.cells #[.int .i64 k1, .int .i64 n1, .string t1, .slice a1 l1 c1, .slice a2 l2 c2] 38)).heap.size := by simp
  go_region_law ((refine stepOwn (by rfl) (.tmp 15) (.tmp 18) 35 (by rfl) B 38 iV _ 5 80 Tryz.underlying35 hiV hv0 hv1 hv2 rfl (by decide) _ _ _ (by rfl) ((HM.out.ownA.alloc _).alloc _) ⟨w.heap.size + 1, 0, none⟩ 1 1 [.int .i64 0, .int .i64 0, .string ⟨#[]⟩, .slice none 0 0, .slice none 0 0] (by rfl) (by rfl) (fun j u hj => news_at2 rfl j u hj) (by simp [Value.oneCell']) (by unfold maxLen; omega) (by omega) (by have := HM.out.le; simp; omega) ?_; intro v' w2 hown2 hg2 hat2; obtain ⟨g, c', rfl, hgB, hgl⟩ := own_some hown2 (by omega); (have A2 := HR.out.grown2 hP HM.out.ownA hg2); (have d3 := A2.cell 3); (have e3 := A2.free 3); (have hgP : g ≠ P := by omega); (have hPg : P ≠ g := by omega); simp at d3; obtain ⟨⟨q0, q1, q2, q3, q4⟩, qf⟩ := last5 hown2 (by rw [HM.out.ownA.1]); (have u0 := qf (A.length * 5)); (have u1 := qf (A.length * 5 + 1)); (have u2 := qf (A.length * 5 + 2)); (have u3 := qf (A.length * 5 + 3)); (have u4 := qf (A.length * 5 + 4))))
  all_goals
    clear c3 f3 d3 e3 q0 q1 q2 q3 q4 qf u0 u1 u2 u3 u4
    go_wp2
    go_ret
    have hal : Below w.heap.size w ((w.alloc (.cells #[.int .i64 k1, .int .i64 n1, .string t1, .slice a1 l1 c1, .slice a2 l2 c2] 38)).alloc (.cells #[.int .i64 0, .int .i64 0, .string ⟨#[]⟩, .slice none 0 0, .slice none 0 0] 38)).drew := ((below_box w _).alloc (by simp) _).drew
    have hF := valueEnd hP HR.out HM.out HX.out hal hown2 hg2 hat2 hgB hgl A2
    unfold put5 at hF
    simp only at hF
    obtain ⟨hFA, hFB⟩ := hF
    refine ⟨rfl, ?_⟩
    first
      | with_reducible exact ⟨hFA.1, _, hFA.2.1, hFA.2.2⟩
      | with_reducible exact ⟨hFB.1, _, hFB.2.1, hFB.2.2⟩
end Go.Proofs.YtobpidmlgldnmaaGreatDoor

/-
  The program's reader of operators, whole.
-/
namespace Go.Proofs.YtobpidmlgldnmaaGreatDoor
open Go.RowKit
set_option maxRecDepth 100000

theorem At.to {w : World} {P : Nat} {s : ByteArray} {j : Nat} {tO tA : Value} (h : RdO w P s j tO tA) (k : Nat) : RdO (w.setCell ⟨P, 1, none⟩ (.int .i64 (k : Int))).drew P s k tO tA := At.drew (heap_setCell_same w P 1 _ _ _ h)
theorem KeepBut.low {P : Nat} {w w' : World} (h : KeepBut P w w') (hP : P < w.heap.size) : Below P w w' := ⟨h.os, h.tape, h.output, h.size, fun k hk => h.block k (by omega) (by omega)⟩
set_option maxHeartbeats 1000000 in
theorem moreS (P B : Nat) (s : ByteArray) (j : Nat) (tO tA : Value) (O : List OC) (A : List VC) (w : World) (hP : P < B) (hR : RdO w P s j tO tA) (hM : OpsM B w tO tA O A) (hj : j ≤ s.size) (hs : s.size ≤ 20000) :
    Calls Tryz.prog 27 #[.pointer (some ⟨P, 0, none⟩)] w fun e w' => e = .returned (.bool (decide (skipP s j < s.size))) ∧ Below P w w' ∧ RdO w' P s (skipP s j) tO tA ∧ OpsM B w' tO tA O A := by
  have c0 := hR.cell 0
  have c1 := hR.cell 1
  have f1 := hR.free 1
  have hlt := hR.lt
  simp at c0 c1
  have HS := fun (w : World) => pSkipN s j w hj (by omega)
  generalize skipP s j = q at HS ⊢
  replace HS := hid HS
  have HM := hid hM
  have HR := hid hR
  clear hM hR
  go_enter Tryz.func27, Tryz.ntmps27
  go_wp2_with fail
  go_region_with (go_at_call 55; refine (HS.out _).mono ?_; rintro e w1 ⟨rfl, rfl⟩)
  all_goals
    go_wp2_with fail
    have hR2 : RdO (w.setCell ⟨P, 1, none⟩ (.int .i64 (q : Nat))).drew P s q tO tA := HR.out.to _
    have hK2 : KeepBut P w (w.setCell ⟨P, 1, none⟩ (.int .i64 (q : Nat))).drew := ((KeepBut.refl P w).set 1 _).drew
    generalize (w.setCell ⟨P, 1, none⟩ (.int .i64 (q : Nat))).drew = w2 at *
    clear c0 c1 f1 HR HS
    have c0 := hR2.cell 0
    have c1 := hR2.cell 1
    have z0 := hR2.lt
    simp at c0 c1
    go_region
    all_goals
      go_wp2
      go_ret
      refine ⟨ret_bool (by first | rfl | simp), ?_, hR2.drew, HM.out.keep hP hK2.drew⟩
      exact hK2.drew.low hlt
/-- A step: an operator. -/
def StepSaid (P B : Nat) (s : ByteArray) (w : World) (r : Int × Nat × List OpP × List V) (e : Ending) (w' : World) : Prop :=
  e = .returned (errN r.1) ∧ Below P w w' ∧ Hid (r.1 = 0 → ∃ tO tA O A, RdO w' P s r.2.1 tO tA ∧ OpsM B w' tO tA O A ∧ O.map (·.1) = r.2.2.1 ∧ A.map (·.1) = r.2.2.2)
theorem nameMay_is (s : ByteArray) (w : World) (hs : s.size ≤ 100000) {r : Bool} (h : opMay s = r) : Calls Tryz.prog 57 #[.string s] w fun e w' => e = .returned (.bool r) ∧ w' = w := by
  subst h; exact nameMay_says s w (by unfold maxLen; omega)
set_option maxHeartbeats 2000000 in
theorem stepOp (P B : Nat) (s : ByteArray) (j : Nat) (tO tA : Value) (O : List OC) (A : List VC) (w : World) (hP : P < B) (hR : RdO w P s j tO tA) (hM : OpsM B w tO tA O A) (hj : j < s.size) (hs : s.size ≤ 20000) (hO : O.length ≤ 2000) (hA : A.length ≤ 8) (hop : opMay (wordP s j) = true) :
    Calls Tryz.prog 28 #[.pointer (some ⟨P, 0, none⟩)] w (StepSaid P B s w (stepR s j (O.map (·.1)) (A.map (·.1)))) := by
  have c0 := hR.cell 0
  have c1 := hR.cell 1
  have f1 := hR.free 1
  have hlt := hR.lt
  simp at c0 c1
  have HW := fun (w : World) => pWordN s j w (by omega) (by omega)
  have hwl := yWordLe (s := s) (k := j) (by omega)
  have HN := fun (w : World) => nameMay_is (wordP s j) w (by omega) hop
  have HE := hid (show stepR s j (O.map (·.1)) (A.map (·.1)) = if O.length = 2000 then (2, j, O.map (·.1), A.map (·.1)) else (0, j + (wordP s j).size, O.map (·.1) ++ [(wordP s j, A.map (·.1))], []) by unfold stepR; rw [if_pos hop, List.length_map])
  clear hop
  generalize wordP s j = W at HW HN HE hwl
  rw [HE.out]
  replace HW := hid HW
  replace HN := hid HN
  have hwl' : (j : Int) + W.size ≤ 100000 := by omega
  have HM := hid hM
  have HR := hid hR
  clear hM hR HE
  go_enter Tryz.func28, Tryz.ntmps28
  go_wp2_with fail
  go_region_with (go_at_call 56; refine (HW.out _).mono ?_; rintro e w1 ⟨rfl, rfl⟩)
  all_goals
    go_wp2_with (go_at_call 57; refine (HN.out _).mono ?_; rintro e w2 ⟨rfl, rfl⟩)
    have hR2 : RdO (w.setCell ⟨P, 1, none⟩ (.int .i64 ((j : Int) + (W.size : Int)))).drew P s (j + W.size) tO tA := HR.out.to (j + W.size)
    have hK2 : KeepBut P w (w.setCell ⟨P, 1, none⟩ (.int .i64 ((j : Int) + (W.size : Int)))).drew := ((KeepBut.refl P w).set 1 _).drew
    have hM2 := HM.out.keep hP hK2
    have hb2 := hK2.low hlt
    generalize (w.setCell ⟨P, 1, none⟩ (.int .i64 ((j : Int) + (W.size : Int)))).drew = w3 at *
    by_cases hn : O.length = 2000
    · have hc := operatorM P B s W (j + W.size) tO tA O A w3 hR2 hM2 hn
      go_at_call 58
      refine hc.mono ?_
      rintro e w4 ⟨rfl, rfl⟩
      go_wp2
      go_ret
      exact ⟨rfl, hb2, hid (fun h => absurd (show (2 : Int) = 0 from h) (by decide))⟩
    · have hc := operatorS P B s W (j + W.size) tO tA O A w3 hP hR2 hM2 (by omega) (by omega) (by unfold maxLen; omega)
      go_at_call 58
      refine hc.mono ?_
      rintro e w4 ⟨rfl, hb4, tO', hR4, hM4⟩
      go_wp2
      go_ret
      exact ⟨rfl, hb2.trans hb4, hid (fun _ => ⟨tO', _, _, _, hR4, hM4, by simp, rfl⟩)⟩
end Go.Proofs.YtobpidmlgldnmaaGreatDoor

/-
  The program's reader of operators: a value.
-/
namespace Go.Proofs.YtobpidmlgldnmaaGreatDoor
open Go.RowKit
set_option maxRecDepth 100000

/-- A value's block, laid behind the call that read it. -/
theorem boxB {w w0 w3 : World} {v : V} {v0 v1 v2 v3 v4 : Value} (h0 : Below w.heap.size w w0) (hb : Below w0.heap.size w0 w3) (HQ : RepIn (fun b => w0.heap.size ≤ b ∧ b < w3.heap.size) 9 w3 v [v0, v1, v2, v3, v4]) :
    Below w.heap.size w (w3.alloc (.cells #[v0, v1, v2, v3, v4] 38)) ∧ At (w3.alloc (.cells #[v0, v1, v2, v3, v4] 38)) w3.heap.size 38 #[v0, v1, v2, v3, v4] ∧
    RepIn (fun b => w.heap.size ≤ b ∧ b < (w3.alloc (.cells #[v0, v1, v2, v3, v4] 38)).heap.size) 9 (w3.alloc (.cells #[v0, v1, v2, v3, v4] 38)) v [v0, v1, v2, v3, v4] := by
  have h3 : Below w.heap.size w w3 := h0.trans (hb.mono h0.size)
  refine ⟨h3.alloc h3.size _, At.new _ _ _ rfl, (HQ.agree (by simp) fun b hb' => heap_alloc_old _ _ hb'.2).mono fun b hb' => ⟨Nat.le_trans h0.size hb'.1, by simp; have := hb'.2; omega⟩⟩
/-- A value's block, laid ahead of the call that read it. -/
theorem boxA {w w0 w3 : World} {v : V} {v0 v1 v2 v3 v4 z0 z1 z2 z3 z4 : Value} (h0 : Below w.heap.size w w0) (hat : At w0 w.heap.size 38 #[z0, z1, z2, z3, z4]) (hb : Below w0.heap.size w0 w3) (HQ : RepIn (fun b => w0.heap.size ≤ b ∧ b < w3.heap.size) 9 w3 v [v0, v1, v2, v3, v4]) :
    Below w.heap.size w (set5 w3 w.heap.size v0 v1 v2 v3 v4) ∧ At (set5 w3 w.heap.size v0 v1 v2 v3 v4) w.heap.size 38 #[v0, v1, v2, v3, v4] ∧
    RepIn (fun b => w.heap.size ≤ b ∧ b < (set5 w3 w.heap.size v0 v1 v2 v3 v4).heap.size) 9 (set5 w3 w.heap.size v0 v1 v2 v3 v4) v [v0, v1, v2, v3, v4] := by
  have h3 : Below w.heap.size w w3 := h0.trans (hb.mono h0.size)
  have hlt := hat.lt
  refine ⟨below_set5 h3 (Nat.le_refl _) _ _ _ _ _, At.five (At.later hat hb) _ _ _ _ _, (HQ.agree (by rw [set5_size]; exact Nat.le_refl _) fun b hb' => set5_other _ _ _ _ _ _ _ (by have := hb'.1; omega)).mono fun b hb' => ⟨Nat.le_trans h0.size hb'.1, by rw [set5_size]; exact hb'.2⟩⟩
theorem then_of {A C : Prop} (h : A) (k : A → C) : C := k h
theorem errN_case (e : Int) : (e = 0 ∧ errN e = .nilIface) ∨ (e ≠ 0 ∧ errN e = .iface 68 (.int .i64 e)) := by
  by_cases h : e = 0
  · subst h; exact .inl ⟨rfl, errN_0⟩
  · have := errN_pos h
    unfold errV at this
    exact .inr ⟨h, this⟩
set_option maxHeartbeats 4000000 in
theorem stepVal (m : Int) (P B : Nat) (s : ByteArray) (j : Nat) (tO tA : Value) (O : List OC) (A : List VC) (w : World) (hG : Gr m w) (hP : P < B) (hR : RdO w P s j tO tA) (hM : OpsM B w tO tA O A) (hj : j < s.size) (hs : s.size ≤ 20000) (hA : A.length ≤ 8) (hop : opMay (wordP s j) = false) :
    Calls Tryz.prog 28 #[.pointer (some ⟨P, 0, none⟩)] w (StepSaid P B s w (stepR s j (O.map (·.1)) (A.map (·.1)))) := by
  have cc0 := hR.cell 0
  have cc1 := hR.cell 1
  have ff1 := hR.free 1
  have hlt := hR.lt
  simp at cc0 cc1
  have HW := fun (w : World) => pWordN s j w (by omega) (by omega)
  have hwl := yWordLe (s := s) (k := j) (by omega)
  have HN := fun (w : World) => nameMay_is (wordP s j) w (by omega) hop
  have HE := hid (show stepR s j (O.map (·.1)) (A.map (·.1)) = if (pV s j).2.1 ≠ 0 then ((pV s j).2.1, j, O.map (·.1), A.map (·.1)) else if A.length = 8 then (10, j, O.map (·.1), A.map (·.1)) else (0, (pV s j).2.2, O.map (·.1), A.map (·.1) ++ [(pV s j).1]) by unfold stepR; rw [if_neg (by rw [hop]; simp), List.length_map])
  clear hop
  generalize wordP s j = W at HW HN hwl
  obtain ⟨R, hRR⟩ : ∃ R, stepR s j (O.map (·.1)) (A.map (·.1)) = R := ⟨_, rfl⟩
  rw [hRR]
  have HE2 := (HE.out).symm.trans hRR
  clear hRR
  have HV := fun (w : World) (hG : Gr m w) => pValueI m s j w (by unfold maxLen; omega) hG
  clear HE
  generalize pV s j = r at HV HE2
  obtain ⟨v, e1, z⟩ := r
  unfold SaidI at HV
  simp only at HV
  replace HE2 := hid HE2
  have HEC := hid (errN_case e1)
  generalize errN e1 = ev at HV HEC
  replace HW := hid HW
  replace HN := hid HN
  replace HV := hid HV
  have HM := hid hM
  have HR := hid hR
  clear hM hR
  go_enter Tryz.func28, Tryz.ntmps28
  go_wp2_with fail
  go_region_with (go_at_call 56; refine (HW.out _).mono ?_; rintro e w1 ⟨rfl, rfl⟩)
  all_goals
    go_wp2_with (go_at_call 57; refine (HN.out _).mono ?_; rintro e w2 ⟨rfl, rfl⟩)
    go_region_with (go_at_call 59; go_must (refine (HV.out _ (hG.below (by go_grown))).mono ?_); rintro e w3 ⟨k1, n1, t1, a1, a2, l1, c1, l2, c2, rfl, hb3, HQ⟩; have g3 := fun o => hb3.cell (p := ⟨w.heap.size, o, none⟩); have q3 := fun o => hb3.frozen (p := ⟨w.heap.size, o, none⟩))
    all_goals
      clear g3 q3
      first
        | (refine then_of (boxA (v := v) (w := w) (below_box w (.cells (vc 0 0 ⟨#[]⟩) 38)).drew.drew (At.new w (vc 0 0 ⟨#[]⟩) 38 rfl).drew.drew hb3 HQ.out) ?_
           rintro ⟨hbX, hAX, hrX⟩
           have hw3 := hb3.size
           simp at hw3
           unfold set5 at hbX hAX hrX
           generalize World.setCell _ _ _ = w4 at hbX hAX hrX ⊢)
        | (refine then_of (boxB (v := v) (w := w) ((Below.refl w.heap.size w).drew.drew) hb3 HQ.out) ?_
           rintro ⟨hbX, hAX, hrX⟩
           have hw3 := hb3.size
           simp at hw3
           generalize World.alloc w3 _ = w4 at hbX hAX hrX ⊢)
      have hR4 : RdO w4 P s j tO tA := At.later HR.out hbX
      have hM4 := hid (HM.out.later hbX)
      have hx4 := hid (HM.out.fresh hrX)
      have hz4 := hR4.lt
      obtain ⟨⟨y0, y1, y2, y3, y4⟩, _⟩ := five_cells hAX
      have d1 := hR4.cell 1
      have f4 := hR4.free 1
      simp at d1
      have hne1 : w.heap.size ≠ P := by omega
      have hne3 : w3.heap.size ≠ P := by omega
      clear cc0 cc1 ff1
      rcases HEC.out with ⟨he, hev⟩ | ⟨he, hev⟩
      · subst he hev
        have HE3 := hid (show (if A.length = 8 then (10, j, O.map (·.1), A.map (·.1)) else (0, z, O.map (·.1), A.map (·.1) ++ [v])) = R by have h := HE2.out; rw [if_neg (show ¬ ((0 : Int) ≠ 0) by decide)] at h; exact h)
        clear HE2
        go_wp2_with (go_at_call 60; fail)
        have hR5 : RdO (w4.setCell ⟨P, 1, none⟩ (.int .i64 (z : Int))) P s z tO tA := heap_setCell_same w4 P 1 _ _ _ hR4
        have hK5 : KeepBut P w4 (w4.setCell ⟨P, 1, none⟩ (.int .i64 (z : Int))) := (KeepBut.refl P w4).set 1 _
        have hM5 := hM4.out.keep hP hK5
        have hx5 : RepIn (Free B (w4.setCell ⟨P, 1, none⟩ (.int .i64 (z : Int))) tO tA) 9 (w4.setCell ⟨P, 1, none⟩ (.int .i64 (z : Int))) v [.int .i64 k1, .int .i64 n1, .string t1, .slice a1 l1 c1, .slice a2 l2 c2] :=
          (hx4.out.agree hK5.size fun b hb => hK5.block b hb.2.1 (by have := hb.1; omega)).mono fun b hb => ⟨hb.1, Nat.lt_of_lt_of_le hb.2.1 hK5.size, hb.2.2⟩
        have hb5 : Below P w (w4.setCell ⟨P, 1, none⟩ (.int .i64 (z : Int))) := (hbX.mono (by omega)).trans (hK5.low hz4)
        clear hK5
        generalize w4.setCell ⟨P, 1, none⟩ (.int .i64 (z : Int)) = w5 at hR5 hM5 hx5 hb5 ⊢
        by_cases hn : A.length = 8
        · have HE4 := hid (show (10, j, O.map (·.1), A.map (·.1)) = R by rw [← HE3.out, if_pos hn])
          have hc := valueM P B s z tO tA O A (.int .i64 k1) (.int .i64 n1) (.string t1) (.slice a1 l1 c1) (.slice a2 l2 c2) w5 hR5 hM5 hn
          clear hM5 hx5 HE3 hn
          go_at_call 60
          refine hc.mono ?_
          rintro e w6 ⟨rfl, hb6⟩
          go_wp2
          go_ret
          rw [← HE4.out]
          exact ⟨rfl, hb5.trans hb6, hid (fun h => absurd (show (10 : Int) = 0 from h) (by decide))⟩
        · have HE4 := hid (show (0, z, O.map (·.1), A.map (·.1) ++ [v]) = R by rw [← HE3.out, if_neg hn])
          have hc := valueS P B s z tO tA O A k1 n1 t1 a1 a2 l1 c1 l2 c2 v w5 hP hR5 hM5 (by omega) hx5
          clear hM5 hx5 HE3 hn
          go_at_call 60
          refine hc.mono ?_
          rintro e w6 ⟨rfl, hb6, tA', hR6, hM6⟩
          go_wp2
          go_ret
          rw [← HE4.out]
          exact ⟨rfl, hb5.trans hb6, hid (fun _ => ⟨tO, tA', O, _, hR6, hM6, rfl, by simp⟩)⟩
      · subst hev
        have HE3 := hid (show (e1, j, O.map (·.1), A.map (·.1)) = R by rw [← HE2.out, if_pos he])
        have HX := hid he
        clear HE2 he
        go_wp2
        go_ret
        rw [← HE3.out]
        have hfin := errN_pos HX.out
        unfold errV at hfin
        exact ⟨by rw [hfin]; rfl, hbX.mono (by omega), hid (fun h => absurd h HX.out)⟩
end Go.Proofs.YtobpidmlgldnmaaGreatDoor
