/-
  The program's own copy of a value.
-/
import Derived.Test.YtidillbpoklnjaaDoorVc4
import Derived.Test.YtidillbpoklnjaaDoorVaa
namespace Go.Proofs.YtidillbpoklnjaaDoor
open Go.RowKit
set_option maxRecDepth 100000

theorem tree_not_row {w : World} {base n b : Nat} {t : Value} {xs : List Value} (h : w.ownsRow base 101 1 t n xs) (hb : Tree w b) : some b ≠ t.ownBlock := by
  obtain ⟨cs, ty, h1, h2⟩ := hb
  rcases h.2 with ⟨rfl, _⟩ | ⟨g, cap, cur, rfl, _, hg, _⟩
  · simp [Value.ownBlock]
  · intro e
    have e' : b = g := by simpa [Value.ownBlock] using e
    subst e'
    rw [h1] at hg
    cases hg
    rcases h2 with h2 | h2 <;> exact absurd h2 (by decide)
/-- A round, and how far its list of work has grown. -/
structure Going (w0 w : World) (p : Pl) (d : Nat) (al af : Option Addr) (cl cf bl bf : Nat) (base R1 : Nat) (P : List Pl) (t : Value) (wq : World) : Prop where
  split : Split w0 w p d al af cl cf bl bf wq
  own : wq.ownsRow base 101 1 t P.length (P.map Pl.ptr)
  box : At wq R1 64 #[.int .i64 0, .int .i64 0, .string ⟨#[]⟩, .slice none 0 0, .slice none 0 0]
  tree : Tree wq p.b
theorem Going.step {w0 w : World} {p : Pl} {d : Nat} {al af : Option Addr} {cl cf bl bf base R1 : Nat} {P : List Pl} {t : Value} {wq w1 w2 : World} (h : Going w0 w p d al af cl cf bl bf base R1 P t wq) (hb0 : w0.heap.size ≤ base) (q : Pl) {v' : Value}
    (hw1 : Below wq.heap.size wq w1) (hown : w2.ownsRow base 101 1 v' (P.length + 1) (P.map Pl.ptr ++ [q.ptr])) (hg : w1.grownBy w2 t.ownBlock) : Going w0 w p d al af cl cf bl bf base R1 (P ++ [q]) v' w2 := by
  have keep : ∀ b, Tree wq b → w2.heap[b]? = wq.heap[b]? := fun b hb => by
    rw [hg.block b (Nat.lt_of_lt_of_le hb.lt hw1.size) (tree_not_row h.own hb), hw1.block b hb.lt]
  have tr : ∀ b, Tree wq b → Tree w2 b := fun b ⟨cs, ty, h1, h2⟩ => ⟨cs, ty, (keep b ⟨cs, ty, h1, h2⟩).trans h1, h2⟩
  refine ⟨h.split.grow h.tree ?_ (Nat.le_trans hw1.size hg.size) keep, ?_, ?_, tr _ h.tree⟩
  · exact (h.split.below.trans (hw1.mono h.split.below.size)).grown hg (Nat.le_trans h.split.below.size hw1.size) (fun k hk => Nat.le_trans hb0 (h.own.lt k hk).1)
  · rw [List.length_append, List.map_append]; exact hown
  · exact (keep R1 ⟨_, _, h.box, .inl rfl⟩).trans h.box
theorem cntL_ge : ∀ l : List V, l.length ≤ cntL l
  | [] => by simp
  | x :: l => by
    have := cntL_ge l
    have : 1 ≤ x.cnt := by rw [cnt_eq]; omega
    rw [cntL]; simp; omega
theorem cntF_ge : ∀ l : List (ByteArray × V), l.length ≤ cntF l
  | [] => by simp
  | x :: l => by
    have := cntF_ge l
    have : 1 ≤ x.2.cnt := by rw [cnt_eq]; omega
    rw [cntF_cons]; simp; omega
/-- What copying holds on to between rounds. -/
structure Rounds (w : World) (r : Pl) (k : Nat) (t : Value) (wr : World) (P : List Pl) : Prop where
  left : leftC P = k
  own : wr.ownsRow (w.heap.size + 2) 101 1 t P.length (P.map Pl.ptr)
  copying : Copying w r (w.heap.size + 2) wr P
  far : ∀ p ∈ P, p.b ≠ w.heap.size + 1
  box : At wr (w.heap.size + 1) 64 #[.int .i64 0, .int .i64 0, .string ⟨#[]⟩, .slice none 0 0, .slice none 0 0]
  most : k ≤ 1048576
  size : w.heap.size + 2 ≤ wr.heap.size
theorem rounds_start {e : Nat} {w : World} {v : V} {al af : Option Addr} {cl cf : Nat} (hv : RepN (e + 1) w v [.int .i64 v.k, .int .i64 v.n, .string v.s, .slice al v.l.length cl, .slice af v.f.length cf]) (hcn : v.cnt ≤ 1048576) :
    Rounds w ⟨w.heap.size, 0, e + 1, v⟩ v.cnt (.slice (some ⟨w.heap.size + 1 + 1, 0, none⟩) 1 1) (((w.alloc (.cells #[.int .i64 v.k, .int .i64 v.n, .string v.s, .slice al v.l.length cl, .slice af v.f.length cf] 64)).alloc (.cells #[.int .i64 0, .int .i64 0, .string ⟨#[]⟩, .slice none 0 0, .slice none 0 0] 64)).alloc (.cells #[.pointer (some ⟨w.heap.size, 0, none⟩)] 101)) [⟨w.heap.size, 0, e + 1, v⟩] := by
  have A1 := ((At.new w #[.int .i64 v.k, .int .i64 v.n, .string v.s, .slice al v.l.length cl, .slice af v.f.length cf] 64 rfl).alloc (.cells #[.int .i64 0, .int .i64 0, .string ⟨#[]⟩, .slice none 0 0, .slice none 0 0] 64)).alloc (.cells #[.pointer (some ⟨w.heap.size, 0, none⟩)] 101)
  have A2 := (At.new (w.alloc (.cells #[.int .i64 v.k, .int .i64 v.n, .string v.s, .slice al v.l.length cl, .slice af v.f.length cf] 64)) #[.int .i64 0, .int .i64 0, .string ⟨#[]⟩, .slice none 0 0, .slice none 0 0] 64 (b := w.heap.size + 1) (by simp)).alloc (.cells #[.pointer (some ⟨w.heap.size, 0, none⟩)] 101)
  have hB : Below w.heap.size w (((w.alloc (.cells #[.int .i64 v.k, .int .i64 v.n, .string v.s, .slice al v.l.length cl, .slice af v.f.length cf] 64)).alloc (.cells #[.int .i64 0, .int .i64 0, .string ⟨#[]⟩, .slice none 0 0, .slice none 0 0] 64)).alloc (.cells #[.pointer (some ⟨w.heap.size, 0, none⟩)] 101)) := by go_grown
  refine ⟨by simp [leftC], ?_, ⟨hB, ?_, by simp, ?_⟩, by simp, A2, hcn, by simp⟩
  · have := World.ownsRow_lit (base := w.heap.size + 2) (e := 101) (size := 1) ((w.alloc (.cells #[.int .i64 v.k, .int .i64 v.n, .string v.s, .slice al v.l.length cl, .slice af v.f.length cf] 64)).alloc (.cells #[.int .i64 0, .int .i64 0, .string ⟨#[]⟩, .slice none 0 0, .slice none 0 0] 64)) #[.pointer (some ⟨w.heap.size, 0, none⟩)] 1 (by simp) (by decide) rfl
    simpa [Pl.ptr] using this
  · intro p hp
    rw [List.mem_singleton.1 hp]
    exact ⟨Nat.le_refl _, ⟨_, _, A1, .inl rfl⟩, _, fun i c hc => by rw [A1.cell]; simpa using hc, hv⟩
  · intro w' _ hD
    obtain ⟨h1, c, h2, h3⟩ := hD ⟨w.heap.size, 0, e + 1, v⟩ (by simp)
    exact ⟨h1, c, h2, h3.low (by simp)⟩
set_option maxHeartbeats 2000000 in
theorem copy_says {d : Nat} {w : World} {v : V} {cs : List Value} (hv : RepN d w v cs) (hcn : v.cnt ≤ 1048576) :
    Calls Tryd.prog 37 #[.agg cs.toArray] w fun e w' => ∃ c, e = .returned (.agg c.toArray) ∧ RepG d w.heap.size w' v c ∧ Below w.heap.size w w' := by
  obtain ⟨iP, hiP, hp0, hp1, hp2⟩ := info_parts infoPt
  obtain ⟨iV, hiV, hv0, hv1, hv2⟩ := info_parts infoV
  obtain ⟨iF, hiF, hf0, hf1, hf2⟩ := info_parts infoF
  obtain ⟨e, rfl⟩ := hv.inv
  have HV := hid hv
  obtain ⟨al, af, cl, cf, rfl, _⟩ := hv
  go_enter Tryd.func37, Tryd.ntmps37
  go_wp2_with fail
  go_loopg [3] v.cnt (fun k t wr => ∃ P : List Pl, Rounds w ⟨w.heap.size, 0, e + 1, v⟩ k t wr P)
  case atStart => exact ⟨_, rounds_start HV.out hcn⟩
  case round =>
    obtain ⟨P, hP⟩ := hrel
    rcases List.eq_nil_or_concat P with rfl | ⟨P0, p, rfl⟩
    · obtain ⟨_, hown, hC, _, hbox, _, hsz⟩ := hP
      obtain ⟨hl0, c, hc, hr⟩ := hC.good wr ⟨Nat.le_refl _, fun _ _ _ _ _ => rfl, fun _ _ _ _ _ h => h⟩ (by simp)
      have HR := hid hr
      have HB := hid hC.below
      obtain ⟨al1, af1, cl1, cf1, bl1, bf1, rfl, _⟩ := hr
      have g0 : wr.cell? ⟨w.heap.size, 0, none⟩ = _ := hc 0 _ rfl
      have g1 : wr.cell? ⟨w.heap.size, 1, none⟩ = _ := hc 1 _ rfl
      have g2 : wr.cell? ⟨w.heap.size, 2, none⟩ = _ := hc 2 _ rfl
      have g3 : wr.cell? ⟨w.heap.size, 3, none⟩ = _ := hc 3 _ rfl
      have g4 : wr.cell? ⟨w.heap.size, 4, none⟩ = _ := hc 4 _ rfl
      clear hc hC
      simp only at g0 g1 g2 g3 g4 hl0
      obtain ⟨_, ⟨rfl, _⟩ | ⟨g, cap, cur, rfl, _⟩⟩ := hown
      all_goals
        go_wp2_with (refine wpList_store_row rfl 64 (.tmp 2) (.tmp 75) rfl (w.heap.size + 1) #[.int .i64 v.k, .int .i64 v.n, .string v.s, .slice al1 v.l.length cl1, .slice af1 v.f.length cf1] rfl rfl 64 #[.int .i64 0, .int .i64 0, .string ⟨#[]⟩, .slice none 0 0, .slice none 0 0] hbox (by kernel_rfl) rfl (by simp [Value.oneCell']) ?_)
        have hA := hbox.setRow #[.int .i64 v.k, .int .i64 v.n, .string v.s, .slice al1 v.l.length cl1, .slice af1 v.f.length cf1]
        have rc := hA.cell
        refine bodyPost_ret (v := .agg #[.int .i64 v.k, .int .i64 v.n, .string v.s, .slice al1 v.l.length cl1, .slice af1 v.f.length cf1]) (by simp [results, Tryd.results37, go_sem, rc]) rfl ⟨[.int .i64 v.k, .int .i64 v.n, .string v.s, .slice al1 v.l.length cl1, .slice af1 v.f.length cf1], rfl, (HR.out.same (by simp [World.setRow]) (fun b hb _ => setRow_other wr (w.heap.size + 1) b _ (by omega))).low (by omega), below_setRow HB.out (by omega) _⟩
    · simp only [List.concat_eq_append] at hP
      have HP := hid hP
      obtain ⟨hleft, hown, hC, hfar, hbox, hmost, hsz⟩ := hP
      rw [List.length_append, List.length_singleton, List.map_append] at hown
      obtain ⟨g, cap, rfl, hg1, hg2, hg3, hg4⟩ := own_form hown (by omega)
      have hc1 : wr.cell? ⟨g, P0.length, none⟩ = some (.pointer (some ⟨p.b, p.o, none⟩)) := by
        rw [hown.cellAt _ (by omega), List.getElem?_append_right (by simp)]; simp [Pl.ptr]
      have hpop := ownsRow_pop (n := P0.length) (size := 1) (xs := P0.map Pl.ptr) (by simp) hown
      have hcnt := leftC_append P0 [p]
      have hP0 := leftC_ge P0
      have hpc := cnt_eq p.v
      have hlp : leftC [p] = p.v.cnt := by simp [leftC]
      have hQl : P0.length ≤ 1048576 := by omega
      have hpt := hC.todo p (by simp)
      obtain ⟨dd, hdd⟩ := hpt.2.2.choose_spec.2.inv
      obtain ⟨al0, af0, cl0, cf0, hcc, hszs, hL, hF⟩ := todo_cells hpt hdd
      have hpl := hpt.2.1.lt
      have hpw := hpt.1
      have hgp : g ≠ p.b := fun e => by
        have := tree_not_row hown hpt.2.1
        simp [Value.ownBlock] at this
        omega
      have hfz : ∀ o, wr.frozen? ⟨p.b, o, none⟩ = false := by
        obtain ⟨cs, t, h1, _⟩ := hpt.2.1
        exact fun o => frozen_of_row wr p.b o cs t h1
      have c3 : wr.cell? ⟨p.b, p.o + 3, none⟩ = some (.slice al0 p.v.l.length cl0) := hcc 3 _ rfl
      have c4 : wr.cell? ⟨p.b, p.o + 4, none⟩ = some (.slice af0 p.v.f.length cf0) := hcc 4 _ rfl
      have hl5 : p.v.l.length ≤ 1048576 := by
        have := cntL_ge p.v.l; omega
      have hf5 : p.v.f.length ≤ 1048576 := by
        have := cntF_ge p.v.f; omega
      have HX := hid (And.intro hL (And.intro hF (And.intro hdd (And.intro hpt hC))))
      have HCL := hid (cells_l hL hC.below)
      have HPOP := hid hpop
      have HCNT := hid (And.intro hleft (And.intro hcnt (And.intro hpc hlp)))
      have hfp : p.b ≠ w.heap.size + 1 := hfar p (by simp)
      have HFAR := hid hfar
      have hgm : cap ≤ 9223372036854775807 := by unfold maxLen at hg4; omega
      clear hown hpop hcnt hpc hlp hpt hdd hcc hszs hL hF hC hfar hleft hP0 hg4
      go_wp2_with (first
        | (at_builtin; refine wpClone rfl _ (.tmp 26) 61 64 rfl iV _ 5 80 Tryd.underlying61 hiV hv0 hv1 hv2 rfl (by decide) (by decide) rfl al0 p.v.l.length cl0 rfl hl5 HCL.out ?_; intro al1 cl1 w1 hk1; have e3 := (cell_grown (p.o + 3) hpl hk1.1).trans c3; have e4 := (cell_grown (p.o + 4) hpl hk1.1).trans c4; have ef := fun o => (World.frozen?_of_block (a := ⟨p.b, o, none⟩) (hk1.1.block p.b hpl (by simp))).trans (hfz o); have hpl1 := Nat.lt_of_lt_of_le hpl hk1.1.size; have HK1 := hid hk1; clear hk1)
        | (at_builtin; refine wpClone rfl _ (.tmp 34) 62 99 rfl iF _ 6 96 Tryd.underlying62 hiF hf0 hf1 hf2 rfl (by decide) (by decide) rfl af0 p.v.f.length cf0 rfl hf5 (cells_f HX.out.2.1 ((HX.out.2.2.2.2.below.grown HK1.out.1 HX.out.2.2.2.2.below.size (by simp)).setCell (p := ⟨p.b, p.o + 3, none⟩) hpw _)) ?_; intro af1 cf1 w3 hk3; have i3 : w3.cell? ⟨p.b, p.o + 3, none⟩ = some (.slice al1 p.v.l.length cl1) := (cell_grown (p.o + 3) (by rw [size_setCell]; exact hpl1) hk3.1).trans (World.cell?_setCell_same _ _ _ e3); have i4 : w3.cell? ⟨p.b, p.o + 4, none⟩ = some (.slice af0 p.v.f.length cf0) := (cell_grown (p.o + 4) (by rw [size_setCell]; exact hpl1) hk3.1).trans ((cell_setCell_ne (.inr (by omega))).trans e4); have hpl3 := Nat.lt_of_lt_of_le hpl1 (Nat.le_trans (by rw [size_setCell]; exact Nat.le_refl _) hk3.1.size); have ig := fun o => (World.frozen?_of_block (a := ⟨p.b, o, none⟩) (hk3.1.block p.b (by rw [size_setCell]; exact hpl1) (by simp))).trans ((World.frozen?_setCell _ _ _ _).trans (ef o)); have HK3 := hid hk3; clear hk3))
      obtain ⟨bl, bf, hS⟩ := split_of (cl := cl1) (cf := cf1) HX.out.2.2.2.2.below HX.out.2.2.2.1 ⟨_, c3⟩ ⟨_, c4⟩ HX.out.1 HX.out.2.1 HK1.out HK3.out
      have hG : Going w wr p dd al1 af1 cl1 cf1 bl bf (w.heap.size + 2) (w.heap.size + 1) P0 (.slice (some ⟨g, 0, none⟩) P0.length cap) (w3.setCell ⟨p.b, p.o + 4, none⟩ (.slice af1 p.v.f.length cf1)) := by
        have b1 := (HK1.out.1.block _ hbox.lt (by simp)).trans hbox
        have b2 := (Below.heap_setCell w1 ⟨p.b, p.o + 3, none⟩ (.slice al1 p.v.l.length cl1) (w.heap.size + 1) (by simpa using fun e => hfp e.symm)).trans b1
        have b3 := (HK3.out.1.block _ (Array.getElem?_eq_some_iff.1 b2).1 (by simp)).trans b2
        have b4 := (Below.heap_setCell w3 ⟨p.b, p.o + 4, none⟩ (.slice af1 p.v.f.length cf1) (w.heap.size + 1) (by simpa using fun e => hfp e.symm)).trans b3
        have o1 := World.ownsRow.kept HPOP.out HK1.out.1 (by simp [Value.ownBlock])
        have o2 := ownsRow_setCell_other o1 (a := ⟨p.b, p.o + 3, none⟩) (by simpa [Value.ownBlock] using hgp) (.slice al1 p.v.l.length cl1)
        have o3 := World.ownsRow.kept o2 HK3.out.1 (by simp [Value.ownBlock])
        have o4 := ownsRow_setCell_other o3 (a := ⟨p.b, p.o + 4, none⟩) (by simpa [Value.ownBlock] using hgp) (.slice af1 p.v.f.length cf1)
        exact ⟨hS, by simpa using o4, b4, hS.tree _ HX.out.2.2.2.1.2.1⟩
      have HG0 := hid hG
      generalize w3.setCell ⟨p.b, p.o + 4, none⟩ (.slice af1 p.v.f.length cf1) = w4 at *
      have HSZ := hid hsz
      obtain ⟨wo, hwo⟩ : ∃ wo : World, wo = wr := ⟨wr, rfl⟩
      rw [← hwo] at HG0 HX HSZ
      clear hwo
      clear hG hS HK1 HK3 HPOP i3 i4 ig e3 e4 ef c3 c4 hfz hc1 hpl1 hpl3 hpl hbox HCL hsz
      go_loopw [3, 43] (fun t i wq => ∃ j : Nat, i = .int .i64 j ∧ j ≤ p.v.l.length ∧ Going w wo p dd al1 af1 cl1 cf1 bl bf (w.heap.size + 2) (w.heap.size + 1) (P0 ++ plL bl dd (p.v.l.take j)) t wq) (fun _ i _ => p.v.l.length - (intOf i).toNat)
      case atStart => exact ⟨0, rfl, Nat.zero_le _, by simpa [plL] using HG0.out⟩
      case round =>
        obtain ⟨j, rfl, hj, hG⟩ := hrel
        have HG := hid hG
        have s3 := hG.split.s3
        have s4 := hG.split.s4
        have hplq := hG.tree.lt
        have hbl0 := hG.own.lt
        have hbq : w.heap.size + 2 ≤ wr.heap.size := Nat.le_trans HSZ.out hG.split.size
        have hlen : (P0 ++ plL bl dd (p.v.l.take j)).length = P0.length + j := by rw [List.length_append, plL_len, List.length_take]; omega
        have HLEN := hid hlen
        clear hG hbl0 hlen
        by_cases hjl : j < p.v.l.length
        · have hjl' : (j : Int) < p.v.l.length := by omega
          obtain ⟨rfl, _⟩ := HG.out.split.lAt j p.v.l[j] (List.getElem?_eq_getElem hjl)
          go_wp2_with (at_builtin; refine wpList_append_own _ rfl (.tmp 46) (.tmp 53) 102 rfl (w.heap.size + 2) 101 iP (.pointer none) 1 8 Tryd.underlying102 hiP hp0 hp1 hp2 rfl (by decide) _ _ _ rfl (HG.out.own.alloc _) ⟨wr.heap.size, 0, none⟩ 1 1 [.pointer (some ⟨bl, j * 5, none⟩)] rfl rfl ?c1 ?c2 ?c3 ?c4 ?c5 ?_)
          case c1 => first | (intro i u hi; exact one_new rfl i u hi) | (intro i u hi; exact hi)
          case c2 => first | rfl | (intro u hu; simp at hu; subst hu; rfl)
          case c3 => rw [HLEN.out]; unfold maxLen; omega
          case c4 => rw [HLEN.out]; omega
          case c5 => first | omega | (simp; omega)
          intro v' w2 hown' hgrow _
          have HG2 := hid (HG.out.step (by omega) ⟨bl, j * 5, dd, p.v.l[j]⟩ ((Below.refl _ _).alloc (Nat.le_refl _) _) (by simpa [Pl.ptr] using hown') hgrow)
          clear hown' hgrow
          go_wp2_with fail
          go_roundw
          case rel => exact ⟨j + 1, by go_num, by omega, by rw [plL_take _ _ _ _ hjl, ← List.append_assoc]; exact HG2.out⟩
          case measure => simp [intOf]; omega
        · have hjl' : ¬ (j : Int) < p.v.l.length := by omega
          have HGL := hid (show Going _ _ _ _ _ _ _ _ _ _ _ _ (P0 ++ plL bl dd p.v.l) _ _ by have := HG.out; rw [List.take_of_length_le (by omega)] at this; exact this)
          have HLL := hid (show (P0 ++ plL bl dd p.v.l).length = P0.length + p.v.l.length by rw [List.length_append, plL_len])
          clear HG HLEN
          go_wp2_with fail
          clear s3 s4 hplq hbq
          go_loopw [3, 61] (fun t i wq => ∃ j : Nat, i = .int .i64 j ∧ j ≤ p.v.f.length ∧ Going w wo p dd al1 af1 cl1 cf1 bl bf (w.heap.size + 2) (w.heap.size + 1) (P0 ++ plL bl dd p.v.l ++ plF bf dd (p.v.f.take j)) t wq) (fun _ i _ => p.v.f.length - (intOf i).toNat)
          case atStart => exact ⟨0, rfl, Nat.zero_le _, by simpa [plF] using HGL.out⟩
          case round =>
            obtain ⟨j, rfl, hj, hG⟩ := hrel
            have HG := hid hG
            have s4 := hG.split.s4
            have hplq := hG.tree.lt
            have hbq : w.heap.size + 2 ≤ wr.heap.size := Nat.le_trans HSZ.out hG.split.size
            have HLEN := hid (show (P0 ++ plL bl dd p.v.l ++ plF bf dd (p.v.f.take j)).length = P0.length + p.v.l.length + j by rw [List.length_append, HLL.out, plF_len, List.length_take]; omega)
            clear hG
            by_cases hjl : j < p.v.f.length
            · have hjl' : (j : Int) < p.v.f.length := by omega
              obtain ⟨rfl, _⟩ := HG.out.split.fAt j p.v.f[j] (List.getElem?_eq_getElem hjl)
              go_wp2_with (at_builtin; refine wpList_append_own _ rfl (.tmp 64) (.tmp 72) 102 rfl (w.heap.size + 2) 101 iP (.pointer none) 1 8 Tryd.underlying102 hiP hp0 hp1 hp2 rfl (by decide) _ _ _ rfl (HG.out.own.alloc _) ⟨wr.heap.size, 0, none⟩ 1 1 [.pointer (some ⟨bf, j * 6 + 1, none⟩)] rfl rfl ?d1 ?d2 ?d3 ?d4 ?d5 ?_)
              case d1 => first | (intro i u hi; exact one_new rfl i u hi) | (intro i u hi; exact hi)
              case d2 => first | rfl | (intro u hu; simp at hu; subst hu; rfl)
              case d3 => rw [HLEN.out]; unfold maxLen; omega
              case d4 => rw [HLEN.out]; omega
              case d5 => first | omega | (simp; omega)
              intro v' w2 hown' hgrow _
              have HG2 := hid (HG.out.step (by omega) ⟨bf, j * 6 + 1, dd, p.v.f[j].2⟩ ((Below.refl _ _).alloc (Nat.le_refl _) _) (by simpa [Pl.ptr] using hown') hgrow)
              clear hown' hgrow
              go_wp2_with fail
              go_roundw
              case rel => exact ⟨j + 1, by go_num, by omega, by rw [plF_take _ _ _ _ hjl, ← List.append_assoc]; exact HG2.out⟩
              case measure => simp [intOf]; omega
            · have hjl' : ¬ (j : Int) < p.v.f.length := by omega
              have HGF := hid (show Going _ _ _ _ _ _ _ _ _ _ _ _ (P0 ++ (plL bl dd p.v.l ++ plF bf dd p.v.f)) _ _ by have := HG.out; rw [List.take_of_length_le (by omega), List.append_assoc] at this; exact this)
              have hms : leftC (P0 ++ (plL bl dd p.v.l ++ plF bf dd p.v.f)) < gk := by
                obtain ⟨h1, h2, h3, h4⟩ := HCNT.out
                rw [leftC_append, leftC_append, plL_left, plF_left]
                omega
              have HMS := hid hms
              clear HG HLEN hms
              go_wp2_with fail
              go_roundg (leftC (P0 ++ (plL bl dd p.v.l ++ plF bf dd p.v.f)))
              case measure => exact HMS.out
              case rel =>
                refine ⟨P0 ++ (plL bl dd p.v.l ++ plF bf dd p.v.f), rfl, HGF.out.own, HX.out.2.2.2.2.round HX.out.2.2.1 HGF.out.split, fun q hq => ?_, HGF.out.box, by have := HMS.out; omega, hbq⟩
                have hz := HSZ.out
                have hge := HGF.out.split.ge
                rcases List.mem_append.1 hq with hq | hq
                · exact HFAR.out q (by simp [hq])
                rcases List.mem_append.1 hq with hq | hq
                · obtain ⟨i, x, _, rfl⟩ := mem_plL hq
                  show bl ≠ _
                  omega
                · obtain ⟨i, x, _, rfl⟩ := mem_plF hq
                  show bf ≠ _
                  omega
end Go.Proofs.YtidillbpoklnjaaDoor
