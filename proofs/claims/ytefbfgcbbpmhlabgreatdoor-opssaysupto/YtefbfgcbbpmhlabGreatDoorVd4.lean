/-
  Joined: Vc5, Vd3, Vd4.
-/
import Derived.Test.YtefbfgcbbpmhlabGreatDoorVaa
import Derived.Test.YtefbfgcbbpmhlabGreatDoorVd2

/-
  The program's own copy of a value.
-/
namespace Go.Proofs.YtefbfgcbbpmhlabGreatDoor
open Go.RowKit
set_option maxRecDepth 100000

theorem tree_not_row {w : World} {base n b : Nat} {t : Value} {xs : List Value} (h : w.ownsRow base 181 1 t n xs) (hb : Tree w b) : some b ≠ t.ownBlock := by
  obtain ⟨cs, ty, h1, h2⟩ := hb
  rcases h.2 with ⟨rfl, _⟩ | ⟨g, cap, cur, rfl, _, hg, _⟩
  · simp [Value.ownBlock]
  · intro e
    have e' : b = g := by simpa [Value.ownBlock] using e
    subst e'
    rw [h1] at hg
    cases hg
    rcases h2 with h2 | h2 <;> exact absurd h2 (by decide)
/-- A round, and how far its list of work has grown. -/
structure Going (w0 w : World) (p : Pl) (d : Nat) (al af : Option Addr) (cl cf bl bf : Nat) (base R1 : Nat) (P : List Pl) (t : Value) (wq : World) : Prop where
  split : Split w0 w p d al af cl cf bl bf wq
  own : wq.ownsRow base 181 1 t P.length (P.map Pl.ptr)
  box : At wq R1 26 #[.int .i64 0, .int .i64 0, .string ⟨#[]⟩, .slice none 0 0, .slice none 0 0]
  tree : Tree wq p.b
theorem Going.step {w0 w : World} {p : Pl} {d : Nat} {al af : Option Addr} {cl cf bl bf base R1 : Nat} {P : List Pl} {t : Value} {wq w1 w2 : World} (h : Going w0 w p d al af cl cf bl bf base R1 P t wq) (hb0 : w0.heap.size ≤ base) (q : Pl) {v' : Value}
    (hw1 : Below wq.heap.size wq w1) (hown : w2.ownsRow base 181 1 v' (P.length + 1) (P.map Pl.ptr ++ [q.ptr])) (hg : w1.grownBy w2 t.ownBlock) : Going w0 w p d al af cl cf bl bf base R1 (P ++ [q]) v' w2 := by
  have keep : ∀ b, Tree wq b → w2.heap[b]? = wq.heap[b]? := fun b hb => by
    rw [hg.block b (Nat.lt_of_lt_of_le hb.lt hw1.size) (tree_not_row h.own hb), hw1.block b hb.lt]
  have tr : ∀ b, Tree wq b → Tree w2 b := fun b ⟨cs, ty, h1, h2⟩ => ⟨cs, ty, (keep b ⟨cs, ty, h1, h2⟩).trans h1, h2⟩
  refine ⟨h.split.grow h.tree ?_ (Nat.le_trans hw1.size hg.size) keep, ?_, ?_, tr _ h.tree⟩
  · exact (h.split.below.trans (hw1.mono h.split.below.size)).grown hg (Nat.le_trans h.split.below.size hw1.size) (fun k hk => Nat.le_trans hb0 (h.own.lt k hk).1)
  · rw [List.length_append, List.map_append]; exact hown
  · exact (keep R1 ⟨_, _, h.box, .inl rfl⟩).trans h.box
theorem cntL_ge : ∀ l : List V, l.length ≤ cntL l
  | [] => by simp
  | x :: l => by
    have := cntL_ge l
    have : 1 ≤ x.cnt := by rw [cnt_eq]; omega
    rw [cntL]; simp; omega
theorem cntF_ge : ∀ l : List (ByteArray × V), l.length ≤ cntF l
  | [] => by simp
  | x :: l => by
    have := cntF_ge l
    have : 1 ≤ x.2.cnt := by rw [cnt_eq]; omega
    rw [cntF_cons]; simp; omega
/-- What copying holds on to between rounds. -/
structure Rounds (w : World) (r : Pl) (k : Nat) (t : Value) (wr : World) (P : List Pl) : Prop where
  left : leftC P = k
  own : wr.ownsRow (w.heap.size + 2) 181 1 t P.length (P.map Pl.ptr)
  copying : Copying w r (w.heap.size + 2) wr P
  far : ∀ p ∈ P, p.b ≠ w.heap.size + 1
  box : At wr (w.heap.size + 1) 26 #[.int .i64 0, .int .i64 0, .string ⟨#[]⟩, .slice none 0 0, .slice none 0 0]
  most : k ≤ 1048576
  size : w.heap.size + 2 ≤ wr.heap.size
theorem rounds_start {e : Nat} {w : World} {v : V} {al af : Option Addr} {cl cf : Nat} (hv : RepN (e + 1) w v [.int .i64 v.k, .int .i64 v.n, .string v.s, .slice al v.l.length cl, .slice af v.f.length cf]) (hcn : v.cnt ≤ 1048576) :
    Rounds w ⟨w.heap.size, 0, e + 1, v⟩ v.cnt (.slice (some ⟨w.heap.size + 1 + 1, 0, none⟩) 1 1) (((w.alloc (.cells #[.int .i64 v.k, .int .i64 v.n, .string v.s, .slice al v.l.length cl, .slice af v.f.length cf] 26)).alloc (.cells #[.int .i64 0, .int .i64 0, .string ⟨#[]⟩, .slice none 0 0, .slice none 0 0] 26)).alloc (.cells #[.pointer (some ⟨w.heap.size, 0, none⟩)] 181)) [⟨w.heap.size, 0, e + 1, v⟩] := by
  have A1 := ((At.new w #[.int .i64 v.k, .int .i64 v.n, .string v.s, .slice al v.l.length cl, .slice af v.f.length cf] 26 rfl).alloc (.cells #[.int .i64 0, .int .i64 0, .string ⟨#[]⟩, .slice none 0 0, .slice none 0 0] 26)).alloc (.cells #[.pointer (some ⟨w.heap.size, 0, none⟩)] 181)
  have A2 := (At.new (w.alloc (.cells #[.int .i64 v.k, .int .i64 v.n, .string v.s, .slice al v.l.length cl, .slice af v.f.length cf] 26)) #[.int .i64 0, .int .i64 0, .string ⟨#[]⟩, .slice none 0 0, .slice none 0 0] 26 (b := w.heap.size + 1) (by simp)).alloc (.cells #[.pointer (some ⟨w.heap.size, 0, none⟩)] 181)
  have hB : Below w.heap.size w (((w.alloc (.cells #[.int .i64 v.k, .int .i64 v.n, .string v.s, .slice al v.l.length cl, .slice af v.f.length cf] 26)).alloc (.cells #[.int .i64 0, .int .i64 0, .string ⟨#[]⟩, .slice none 0 0, .slice none 0 0] 26)).alloc (.cells #[.pointer (some ⟨w.heap.size, 0, none⟩)] 181)) := by go_grown
  refine ⟨by simp [leftC], ?_, ⟨hB, ?_, by simp, ?_⟩, by simp, A2, hcn, by simp⟩
  · have := World.ownsRow_lit (base := w.heap.size + 2) (e := 181) (size := 1) ((w.alloc (.cells #[.int .i64 v.k, .int .i64 v.n, .string v.s, .slice al v.l.length cl, .slice af v.f.length cf] 26)).alloc (.cells #[.int .i64 0, .int .i64 0, .string ⟨#[]⟩, .slice none 0 0, .slice none 0 0] 26)) #[.pointer (some ⟨w.heap.size, 0, none⟩)] 1 (by simp) (by decide) rfl
    simpa [Pl.ptr] using this
  · intro p hp
    rw [List.mem_singleton.1 hp]
    exact ⟨Nat.le_refl _, ⟨_, _, A1, .inl rfl⟩, _, fun i c hc => by rw [A1.cell]; simpa using hc, hv⟩
  · intro w' _ hD
    obtain ⟨h1, c, h2, h3⟩ := hD ⟨w.heap.size, 0, e + 1, v⟩ (by simp)
    exact ⟨h1, c, h2, h3.low (by simp)⟩
set_option maxHeartbeats 2000000 in
theorem copy_says {d : Nat} {w : World} {v : V} {cs : List Value} (hv : RepN d w v cs) (hcn : v.cnt ≤ 1048576) :
    Calls Tryz.prog 91 #[.agg cs.toArray] w fun e w' => ∃ c, e = .returned (.agg c.toArray) ∧ RepG d w.heap.size w' v c ∧ Below w.heap.size w w' := by
  obtain ⟨iP, hiP, hp0, hp1, hp2⟩ := info_parts infoPt
  obtain ⟨iV, hiV, hv0, hv1, hv2⟩ := info_parts infoV
  obtain ⟨iF, hiF, hf0, hf1, hf2⟩ := info_parts infoF
  obtain ⟨e, rfl⟩ := hv.inv
  have HV := hid hv
  obtain ⟨al, af, cl, cf, rfl, _⟩ := hv
  go_enter Tryz.func91, Tryz.ntmps91
  go_wp2_with fail
  go_loopg [3] v.cnt (fun k t wr => ∃ P : List Pl, Rounds w ⟨w.heap.size, 0, e + 1, v⟩ k t wr P)
  case atStart => exact ⟨_, rounds_start HV.out hcn⟩
  case round =>
    obtain ⟨P, hP⟩ := hrel
    rcases List.eq_nil_or_concat P with rfl | ⟨P0, p, rfl⟩
    · obtain ⟨_, hown, hC, _, hbox, _, hsz⟩ := hP
      obtain ⟨hl0, c, hc, hr⟩ := hC.good wr ⟨Nat.le_refl _, fun _ _ _ _ _ => rfl, fun _ _ _ _ _ h => h⟩ (by simp)
      have HR := hid hr
      have HB := hid hC.below
      obtain ⟨al1, af1, cl1, cf1, bl1, bf1, rfl, _⟩ := hr
      have g0 : wr.cell? ⟨w.heap.size, 0, none⟩ = _ := hc 0 _ rfl
      have g1 : wr.cell? ⟨w.heap.size, 1, none⟩ = _ := hc 1 _ rfl
      have g2 : wr.cell? ⟨w.heap.size, 2, none⟩ = _ := hc 2 _ rfl
      have g3 : wr.cell? ⟨w.heap.size, 3, none⟩ = _ := hc 3 _ rfl
      have g4 : wr.cell? ⟨w.heap.size, 4, none⟩ = _ := hc 4 _ rfl
      clear hc hC
      simp only at g0 g1 g2 g3 g4 hl0
      obtain ⟨_, ⟨rfl, _⟩ | ⟨g, cap, cur, rfl, _⟩⟩ := hown
      all_goals
        go_wp2_with (refine wpList_store_row rfl 26 (.tmp 2) (.tmp 75) rfl (w.heap.size + 1) #[.int .i64 v.k, .int .i64 v.n, .string v.s, .slice al1 v.l.length cl1, .slice af1 v.f.length cf1] rfl rfl 26 #[.int .i64 0, .int .i64 0, .string ⟨#[]⟩, .slice none 0 0, .slice none 0 0] hbox (by kernel_rfl) rfl (by simp [Value.oneCell']) ?_)
        have hA := hbox.setRow #[.int .i64 v.k, .int .i64 v.n, .string v.s, .slice al1 v.l.length cl1, .slice af1 v.f.length cf1]
        have rc := hA.cell
        refine bodyPost_ret (v := .agg #[.int .i64 v.k, .int .i64 v.n, .string v.s, .slice al1 v.l.length cl1, .slice af1 v.f.length cf1]) (by simp [results, Tryz.results91, go_sem, rc]) rfl ⟨[.int .i64 v.k, .int .i64 v.n, .string v.s, .slice al1 v.l.length cl1, .slice af1 v.f.length cf1], rfl, (HR.out.same (by simp [World.setRow]) (fun b hb _ => setRow_other wr (w.heap.size + 1) b _ (by omega))).low (by omega), below_setRow HB.out (by omega) _⟩
    · simp only [List.concat_eq_append] at hP
      have HP := hid hP
      obtain ⟨hleft, hown, hC, hfar, hbox, hmost, hsz⟩ := hP
      rw [List.length_append, List.length_singleton, List.map_append] at hown
      obtain ⟨g, cap, rfl, hg1, hg2, hg3, hg4⟩ := own_form hown (by omega)
      have hc1 : wr.cell? ⟨g, P0.length, none⟩ = some (.pointer (some ⟨p.b, p.o, none⟩)) := by
        rw [hown.cellAt _ (by omega), List.getElem?_append_right (by simp)]; simp [Pl.ptr]
      have hpop := ownsRow_pop (n := P0.length) (size := 1) (xs := P0.map Pl.ptr) (by simp) hown
      have hcnt := leftC_append P0 [p]
      have hP0 := leftC_ge P0
      have hpc := cnt_eq p.v
      have hlp : leftC [p] = p.v.cnt := by simp [leftC]
      have hQl : P0.length ≤ 1048576 := by omega
      have hpt := hC.todo p (by simp)
      obtain ⟨dd, hdd⟩ := hpt.2.2.choose_spec.2.inv
      obtain ⟨al0, af0, cl0, cf0, hcc, hszs, hL, hF⟩ := todo_cells hpt hdd
      have hpl := hpt.2.1.lt
      have hpw := hpt.1
      have hgp : g ≠ p.b := fun e => by
        have := tree_not_row hown hpt.2.1
        simp [Value.ownBlock] at this
        omega
      have hfz : ∀ o, wr.frozen? ⟨p.b, o, none⟩ = false := by
        obtain ⟨cs, t, h1, _⟩ := hpt.2.1
        exact fun o => frozen_of_row wr p.b o cs t h1
      have c3 : wr.cell? ⟨p.b, p.o + 3, none⟩ = some (.slice al0 p.v.l.length cl0) := hcc 3 _ rfl
      have c4 : wr.cell? ⟨p.b, p.o + 4, none⟩ = some (.slice af0 p.v.f.length cf0) := hcc 4 _ rfl
      have hl5 : p.v.l.length ≤ 1048576 := by
        have := cntL_ge p.v.l; omega
      have hf5 : p.v.f.length ≤ 1048576 := by
        have := cntF_ge p.v.f; omega
      have HX := hid (And.intro hL (And.intro hF (And.intro hdd (And.intro hpt hC))))
      have HCL := hid (cells_l hL hC.below)
      have HPOP := hid hpop
      have HCNT := hid (And.intro hleft (And.intro hcnt (And.intro hpc hlp)))
      have hfp : p.b ≠ w.heap.size + 1 := hfar p (by simp)
      have HFAR := hid hfar
      have hgm : cap ≤ 9223372036854775807 := by unfold maxLen at hg4; omega
      clear hown hpop hcnt hpc hlp hpt hdd hcc hszs hL hF hC hfar hleft hP0 hg4
      go_wp2_with (first
        | (at_builtin; refine wpClone rfl _ (.tmp 26) 23 26 rfl iV _ 5 80 Tryz.underlying23 hiV hv0 hv1 hv2 rfl (by decide) (by decide) rfl al0 p.v.l.length cl0 rfl hl5 HCL.out ?_; intro al1 cl1 w1 hk1; have e3 := (cell_grown (p.o + 3) hpl hk1.1).trans c3; have e4 := (cell_grown (p.o + 4) hpl hk1.1).trans c4; have ef := fun o => (World.frozen?_of_block (a := ⟨p.b, o, none⟩) (hk1.1.block p.b hpl (by simp))).trans (hfz o); have hpl1 := Nat.lt_of_lt_of_le hpl hk1.1.size; have HK1 := hid hk1; clear hk1)
        | (at_builtin; refine wpClone rfl _ (.tmp 34) 24 91 rfl iF _ 6 96 Tryz.underlying24 hiF hf0 hf1 hf2 rfl (by decide) (by decide) rfl af0 p.v.f.length cf0 rfl hf5 (cells_f HX.out.2.1 ((HX.out.2.2.2.2.below.grown HK1.out.1 HX.out.2.2.2.2.below.size (by simp)).setCell (p := ⟨p.b, p.o + 3, none⟩) hpw _)) ?_; intro af1 cf1 w3 hk3; have i3 : w3.cell? ⟨p.b, p.o + 3, none⟩ = some (.slice al1 p.v.l.length cl1) := (cell_grown (p.o + 3) (by rw [size_setCell]; exact hpl1) hk3.1).trans (World.cell?_setCell_same _ _ _ e3); have i4 : w3.cell? ⟨p.b, p.o + 4, none⟩ = some (.slice af0 p.v.f.length cf0) := (cell_grown (p.o + 4) (by rw [size_setCell]; exact hpl1) hk3.1).trans ((cell_setCell_ne (.inr (by omega))).trans e4); have hpl3 := Nat.lt_of_lt_of_le hpl1 (Nat.le_trans (by rw [size_setCell]; exact Nat.le_refl _) hk3.1.size); have ig := fun o => (World.frozen?_of_block (a := ⟨p.b, o, none⟩) (hk3.1.block p.b (by rw [size_setCell]; exact hpl1) (by simp))).trans ((World.frozen?_setCell _ _ _ _).trans (ef o)); have HK3 := hid hk3; clear hk3))
      obtain ⟨bl, bf, hS⟩ := split_of (cl := cl1) (cf := cf1) HX.out.2.2.2.2.below HX.out.2.2.2.1 ⟨_, c3⟩ ⟨_, c4⟩ HX.out.1 HX.out.2.1 HK1.out HK3.out
      have hG : Going w wr p dd al1 af1 cl1 cf1 bl bf (w.heap.size + 2) (w.heap.size + 1) P0 (.slice (some ⟨g, 0, none⟩) P0.length cap) (w3.setCell ⟨p.b, p.o + 4, none⟩ (.slice af1 p.v.f.length cf1)) := by
        have b1 := (HK1.out.1.block _ hbox.lt (by simp)).trans hbox
        have b2 := (Below.heap_setCell w1 ⟨p.b, p.o + 3, none⟩ (.slice al1 p.v.l.length cl1) (w.heap.size + 1) (by simpa using fun e => hfp e.symm)).trans b1
        have b3 := (HK3.out.1.block _ (Array.getElem?_eq_some_iff.1 b2).1 (by simp)).trans b2
        have b4 := (Below.heap_setCell w3 ⟨p.b, p.o + 4, none⟩ (.slice af1 p.v.f.length cf1) (w.heap.size + 1) (by simpa using fun e => hfp e.symm)).trans b3
        have o1 := World.ownsRow.kept HPOP.out HK1.out.1 (by simp [Value.ownBlock])
        have o2 := ownsRow_setCell_other o1 (a := ⟨p.b, p.o + 3, none⟩) (by simpa [Value.ownBlock] using hgp) (.slice al1 p.v.l.length cl1)
        have o3 := World.ownsRow.kept o2 HK3.out.1 (by simp [Value.ownBlock])
        have o4 := ownsRow_setCell_other o3 (a := ⟨p.b, p.o + 4, none⟩) (by simpa [Value.ownBlock] using hgp) (.slice af1 p.v.f.length cf1)
        exact ⟨hS, by simpa using o4, b4, hS.tree _ HX.out.2.2.2.1.2.1⟩
      have HG0 := hid hG
      generalize w3.setCell ⟨p.b, p.o + 4, none⟩ (.slice af1 p.v.f.length cf1) = w4 at *
      have HSZ := hid hsz
      obtain ⟨wo, hwo⟩ : ∃ wo : World, wo = wr := ⟨wr, rfl⟩
      rw [← hwo] at HG0 HX HSZ
      clear hwo
      clear hG hS HK1 HK3 HPOP i3 i4 ig e3 e4 ef c3 c4 hfz hc1 hpl1 hpl3 hpl hbox HCL hsz
      go_loopw [3, 43] (fun t i wq => ∃ j : Nat, i = .int .i64 j ∧ j ≤ p.v.l.length ∧ Going w wo p dd al1 af1 cl1 cf1 bl bf (w.heap.size + 2) (w.heap.size + 1) (P0 ++ plL bl dd (p.v.l.take j)) t wq) (fun _ i _ => p.v.l.length - (intOf i).toNat)
      case atStart => exact ⟨0, rfl, Nat.zero_le _, by simpa [plL] using HG0.out⟩
      case round =>
        obtain ⟨j, rfl, hj, hG⟩ := hrel
        have HG := hid hG
        have s3 := hG.split.s3
        have s4 := hG.split.s4
        have hplq := hG.tree.lt
        have hbl0 := hG.own.lt
        have hbq : w.heap.size + 2 ≤ wr.heap.size := Nat.le_trans HSZ.out hG.split.size
        have hlen : (P0 ++ plL bl dd (p.v.l.take j)).length = P0.length + j := by rw [List.length_append, plL_len, List.length_take]; omega
        have HLEN := hid hlen
        clear hG hbl0 hlen
        by_cases hjl : j < p.v.l.length
        · have hjl' : (j : Int) < p.v.l.length := by omega
          obtain ⟨rfl, _⟩ := HG.out.split.lAt j p.v.l[j] (List.getElem?_eq_getElem hjl)
          go_wp2_with (at_builtin; refine wpList_append_own _ rfl (.tmp 46) (.tmp 53) 204 rfl (w.heap.size + 2) 181 iP (.pointer none) 1 8 Tryz.underlying204 hiP hp0 hp1 hp2 rfl (by decide) _ _ _ rfl (HG.out.own.alloc _) ⟨wr.heap.size, 0, none⟩ 1 1 [.pointer (some ⟨bl, j * 5, none⟩)] rfl rfl ?c1 ?c2 ?c3 ?c4 ?c5 ?_)
          case c1 => first | (intro i u hi; exact one_new rfl i u hi) | (intro i u hi; exact hi)
          case c2 => first | rfl | (intro u hu; simp at hu; subst hu; rfl)
          case c3 => rw [HLEN.out]; unfold maxLen; omega
          case c4 => rw [HLEN.out]; omega
          case c5 => first | omega | (simp; omega)
          intro v' w2 hown' hgrow _
          have HG2 := hid (HG.out.step (by omega) ⟨bl, j * 5, dd, p.v.l[j]⟩ ((Below.refl _ _).alloc (Nat.le_refl _) _) (by simpa [Pl.ptr] using hown') hgrow)
          clear hown' hgrow
          go_wp2_with fail
          go_roundw
          case rel => exact ⟨j + 1, by go_num, by omega, by rw [plL_take _ _ _ _ hjl, ← List.append_assoc]; exact HG2.out⟩
          case measure => simp [intOf]; omega
        · have hjl' : ¬ (j : Int) < p.v.l.length := by omega
          have HGL := hid (show Going _ _ _ _ _ _ _ _ _ _ _ _ (P0 ++ plL bl dd p.v.l) _ _ by have := HG.out; rw [List.take_of_length_le (by omega)] at this; exact this)
          have HLL := hid (show (P0 ++ plL bl dd p.v.l).length = P0.length + p.v.l.length by rw [List.length_append, plL_len])
          clear HG HLEN
          go_wp2_with fail
          clear s3 s4 hplq hbq
          go_loopw [3, 61] (fun t i wq => ∃ j : Nat, i = .int .i64 j ∧ j ≤ p.v.f.length ∧ Going w wo p dd al1 af1 cl1 cf1 bl bf (w.heap.size + 2) (w.heap.size + 1) (P0 ++ plL bl dd p.v.l ++ plF bf dd (p.v.f.take j)) t wq) (fun _ i _ => p.v.f.length - (intOf i).toNat)
          case atStart => exact ⟨0, rfl, Nat.zero_le _, by simpa [plF] using HGL.out⟩
          case round =>
            obtain ⟨j, rfl, hj, hG⟩ := hrel
            have HG := hid hG
            have s4 := hG.split.s4
            have hplq := hG.tree.lt
            have hbq : w.heap.size + 2 ≤ wr.heap.size := Nat.le_trans HSZ.out hG.split.size
            have HLEN := hid (show (P0 ++ plL bl dd p.v.l ++ plF bf dd (p.v.f.take j)).length = P0.length + p.v.l.length + j by rw [List.length_append, HLL.out, plF_len, List.length_take]; omega)
            clear hG
            by_cases hjl : j < p.v.f.length
            · have hjl' : (j : Int) < p.v.f.length := by omega
              obtain ⟨rfl, _⟩ := HG.out.split.fAt j p.v.f[j] (List.getElem?_eq_getElem hjl)
              go_wp2_with (at_builtin; refine wpList_append_own _ rfl (.tmp 64) (.tmp 72) 204 rfl (w.heap.size + 2) 181 iP (.pointer none) 1 8 Tryz.underlying204 hiP hp0 hp1 hp2 rfl (by decide) _ _ _ rfl (HG.out.own.alloc _) ⟨wr.heap.size, 0, none⟩ 1 1 [.pointer (some ⟨bf, j * 6 + 1, none⟩)] rfl rfl ?d1 ?d2 ?d3 ?d4 ?d5 ?_)
              case d1 => first | (intro i u hi; exact one_new rfl i u hi) | (intro i u hi; exact hi)
              case d2 => first | rfl | (intro u hu; simp at hu; subst hu; rfl)
              case d3 => rw [HLEN.out]; unfold maxLen; omega
              case d4 => rw [HLEN.out]; omega
              case d5 => first | omega | (simp; omega)
              intro v' w2 hown' hgrow _
              have HG2 := hid (HG.out.step (by omega) ⟨bf, j * 6 + 1, dd, p.v.f[j].2⟩ ((Below.refl _ _).alloc (Nat.le_refl _) _) (by simpa [Pl.ptr] using hown') hgrow)
              clear hown' hgrow
              go_wp2_with fail
              go_roundw
              case rel => exact ⟨j + 1, by go_num, by omega, by rw [plF_take _ _ _ _ hjl, ← List.append_assoc]; exact HG2.out⟩
              case measure => simp [intOf]; omega
            · have hjl' : ¬ (j : Int) < p.v.f.length := by omega
              have HGF := hid (show Going _ _ _ _ _ _ _ _ _ _ _ _ (P0 ++ (plL bl dd p.v.l ++ plF bf dd p.v.f)) _ _ by have := HG.out; rw [List.take_of_length_le (by omega), List.append_assoc] at this; exact this)
              have hms : leftC (P0 ++ (plL bl dd p.v.l ++ plF bf dd p.v.f)) < gk := by
                obtain ⟨h1, h2, h3, h4⟩ := HCNT.out
                rw [leftC_append, leftC_append, plL_left, plF_left]
                omega
              have HMS := hid hms
              clear HG HLEN hms
              go_wp2_with fail
              go_roundg (leftC (P0 ++ (plL bl dd p.v.l ++ plF bf dd p.v.f)))
              case measure => exact HMS.out
              case rel =>
                refine ⟨P0 ++ (plL bl dd p.v.l ++ plF bf dd p.v.f), rfl, HGF.out.own, HX.out.2.2.2.2.round HX.out.2.2.1 HGF.out.split, fun q hq => ?_, HGF.out.box, by have := HMS.out; omega, hbq⟩
                have hz := HSZ.out
                have hge := HGF.out.split.ge
                rcases List.mem_append.1 hq with hq | hq
                · exact HFAR.out q (by simp [hq])
                rcases List.mem_append.1 hq with hq | hq
                · obtain ⟨i, x, _, rfl⟩ := mem_plL hq
                  show bl ≠ _
                  omega
                · obtain ⟨i, x, _, rfl⟩ := mem_plF hq
                  show bf ≠ _
                  omega
end Go.Proofs.YtefbfgcbbpmhlabGreatDoor

/-
  What a dictionary has by a name: the program's answer, and the document's.
-/
namespace Go.Proofs.YtefbfgcbbpmhlabGreatDoor
open Go.RowKit
set_option maxRecDepth 100000

def V.zero : V := ⟨0, 0, ⟨#[]⟩, [], []⟩
theorem rep_zero (d : Nat) (w : World) : RepN (d + 1) w V.zero [.int .i64 0, .int .i64 0, .string ⟨#[]⟩, .slice none 0 0, .slice none 0 0] :=
  ⟨none, none, 0, 0, rfl, by unfold maxLen; simp [V.zero, ByteArray.size], fun i x h => by simp [V.zero] at h, fun i x h => by simp [V.zero] at h⟩
/-- What the first field of a name has. -/
def getF (name : ByteArray) : List (ByteArray × V) → Option V
  | [] => none
  | q :: l => if q.1.toList == name.toList then some q.2 else getF name l
theorem getF_none {name : ByteArray} : ∀ {f : List (ByteArray × V)}, (∀ q ∈ f, (q.1.toList == name.toList) = false) → getF name f = none
  | [], _ => rfl
  | q :: l, h => by rw [getF, h q (by simp)]; exact getF_none (fun p hp => h p (by simp [hp]))
theorem getF_some {name : ByteArray} : ∀ {f : List (ByteArray × V)} {i : Nat} {q : ByteArray × V}, f[i]? = some q → (q.1.toList == name.toList) = true → (∀ (j : Nat) (s : ByteArray × V), j < i → f[j]? = some s → (s.1.toList == name.toList) = false) → getF name f = some q.2
  | [], i, q, h, _, _ => by simp at h
  | p :: l, 0, q, h, hq, _ => by simp at h; subst h; rw [getF, hq]; rfl
  | p :: l, i + 1, q, h, hq, hj => by
    rw [getF, hj 0 p (by omega) rfl]
    exact getF_some (by simpa using h) hq (fun j s hlt hs => hj (j + 1) s (by omega) (by simpa using hs))
theorem cnt_memF : ∀ {l : List (ByteArray × V)} {q : ByteArray × V}, q ∈ l → q.2.cnt ≤ cntF l
  | p :: l, q, h => by
    rw [cntF_cons]
    rcases List.mem_cons.1 h with rfl | h
    · omega
    · have := cnt_memF h; omega

theorem rep_ones {d : Nat} {w : World} {v : V} {c : List Value} (h : RepN d w v c) : c.toArray.all (·.oneCell') = true := by
  obtain ⟨e, rfl⟩ := h.inv
  obtain ⟨_, _, _, _, rfl, _⟩ := h
  simp [Value.oneCell']
set_option maxHeartbeats 1000000 in
theorem vGet_says {d : Nat} {w : World} {v : V} {cs : List Value} (name : ByteArray) (hv : RepN d w v cs) (hcn : v.cnt ≤ 1048576) :
    Calls Tryz.prog 66 #[.agg cs.toArray, .string name] w fun e w' => (∃ c, e = .returned (.tuple #[.agg c.toArray, .bool (getF name v.f).isSome]) ∧ RepN d w' ((getF name v.f).getD V.zero) c) ∧ Below w.heap.size w w' := by
  obtain ⟨e, rfl⟩ := hv.inv
  obtain ⟨al, af, cl, cf, rfl, ⟨_, _, hf⟩, _, hF⟩ := hv
  have hce := cnt_eq v
  have H := hid (fun w1 (h : Below w.heap.size w w1) => find_says (w := w1) name v.f af cf hf (FAt.later hF h))
  have HF := hid hF
  clear hF
  unfold maxLen at hf
  go_enter Tryz.func66, Tryz.ntmps66
  go_wp2_with (go_at_call 92; fail)
  go_at_call 92
  refine (H.out _ (by go_grown)).mono ?_
  rintro e1 w1 ⟨⟨r, rfl, hr⟩, hb1⟩
  have hA := At.later ((At.new w _ _ rfl).alloc _) hb1
  have hR := At.later (At.new (w.alloc _) _ _ (by simp) : At _ (w.heap.size + 1) _ _) hb1
  have mc := hA.cell
  have mz := hA.lt
  have hbw : Below w.heap.size w w1 := Below.trans (by go_grown) (hb1.mono (by simp; omega))
  clear hb1
  rcases hr with ⟨rfl, hno⟩ | ⟨i, q, rfl, hq, hp, hj⟩
  · have hg := getF_none hno
    have HG := hid hg
    clear hg hno
    go_wp2_with (refine wpList_store_row rfl 26 (.tmp 4) (.tmp 13) rfl (w.heap.size + 1) #[.int .i64 0, .int .i64 0, .string ⟨#[]⟩, .slice none 0 0, .slice none 0 0] rfl rfl 26 #[.int .i64 0, .int .i64 0, .string ⟨#[]⟩, .slice none 0 0, .slice none 0 0] hR (by kernel_rfl) rfl (by simp [Value.oneCell']) ?_)
    go_wp2_with fail
    have rc := (hR.setRow #[.int .i64 0, .int .i64 0, .string ⟨#[]⟩, .slice none 0 0, .slice none 0 0]).cell
    refine bodyPost_ret (v := .tuple #[.agg #[.int .i64 0, .int .i64 0, .string ⟨#[]⟩, .slice none 0 0, .slice none 0 0], .bool false]) (by simp [results, Tryz.results66, go_sem, rc]) rfl ⟨⟨[.int .i64 0, .int .i64 0, .string ⟨#[]⟩, .slice none 0 0, .slice none 0 0], by rw [HG.out]; rfl, by rw [HG.out]; exact rep_zero e _⟩, below_setRow hbw (by omega) _⟩
  · have hi := (List.getElem?_eq_some_iff.1 hq).1
    have hi' : (i : Int) < v.f.length := by omega
    have hi0 : (0 : Int) ≤ (i : Int) := by omega
    have hg := getF_some hq hp hj
    have HG := hid hg
    have hqc : q.2.cnt ≤ 1048576 := by have := cnt_memF (List.mem_of_getElem? hq); omega
    obtain ⟨b, off, c, rfl, hbl, _, _, hc, hr⟩ := HF.out i q hq
    obtain ⟨k1, n1, s1, a1, l1, c1, a2, l2, c2, rfl, g0, g1, g2, g3, g4⟩ := rep_cells (hr.later hbw) (hc.later hbl hbw)
    have hbr : b < w1.heap.size := Nat.lt_of_lt_of_le hbl hbw.size
    have HR := hid (hr.later hbw)
    clear hg hp hj hq hr hc
    go_wp2_with (first
      | (go_at_call 91; refine (copy_says HR.out hqc).mono ?_; rintro e2 w2 ⟨c3, rfl, hrg, hb2⟩; have HRG := hid hrg.rep; have HGG := hid hrg; have hR2 := hR.later hb2; have hc3 := rep_len hrg.rep; obtain ⟨u0, u1, u2, u3, u4, rfl⟩ := list5 hc3; clear hrg hc3)
      | (refine wpList_store_row rfl 26 (.tmp 4) (.tmp 20) rfl (w.heap.size + 1) #[u0, u1, u2, u3, u4] rfl rfl 26 #[.int .i64 0, .int .i64 0, .string ⟨#[]⟩, .slice none 0 0, .slice none 0 0] hR2 (by kernel_rfl) rfl (rep_ones HRG.out) ?_))
    have rc := (hR2.setRow #[u0, u1, u2, u3, u4]).cell
    refine bodyPost_ret (v := .tuple #[.agg #[u0, u1, u2, u3, u4], .bool true]) (by simp [results, Tryz.results66, go_sem, rc]) rfl ⟨⟨[u0, u1, u2, u3, u4], by rw [HG.out]; rfl, ?_⟩, below_setRow (hbw.trans (hb2.mono hbw.size)) (by omega) _⟩
    rw [HG.out]
    have hz := hR.lt
    exact ((HGG.out.same (by simp [World.setRow]) (fun b hb _ => setRow_other w2 (w.heap.size + 1) b _ (by omega))).rep).mono (by omega)
set_option maxHeartbeats 1000000 in
theorem rGet_says {d : Nat} {w : World} {v : V} {cs : List Value} (name : ByteArray) (hv : RepN d w v cs) :
    Calls Tryz.prog 51 #[.agg cs.toArray, .string name] w fun e w' => (∃ c, e = .returned (.tuple #[.agg c.toArray, .bool (getF name v.f).isSome]) ∧ RepN d w' ((getF name v.f).getD V.zero) c) ∧ Below w.heap.size w w' := by
  obtain ⟨e, rfl⟩ := hv.inv
  obtain ⟨al, af, cl, cf, rfl, ⟨_, _, hf⟩, _, hF⟩ := hv
  have HF := hid hF
  clear hF
  unfold maxLen at hf
  go_enter Tryz.func51, Tryz.ntmps51
  go_wp2_with fail
  go_loopw [6] (fun i wr => ∃ j : Nat, i = .int .i64 j ∧ j ≤ v.f.length ∧ (∀ (i : Nat) (q : ByteArray × V), i < j → v.f[i]? = some q → (q.1.toList == name.toList) = false) ∧ BoxV wr w.heap.size v al af cl cf ∧ At wr (w.heap.size + 1) 26 #[.int .i64 0, .int .i64 0, .string ⟨#[]⟩, .slice none 0 0, .slice none 0 0] ∧ Below w.heap.size w wr) (fun i _ => v.f.length - (intOf i).toNat)
  case atStart => exact ⟨0, rfl, Nat.zero_le _, fun i q hi => by omega, (At.new w _ _ rfl).alloc _, At.new (w.alloc _) _ _ (by simp), by go_grown⟩
  case round =>
    obtain ⟨j, rfl, hj, hz, hA, hR, hB⟩ := hrel
    have HZ := hid hz
    clear hz
    have mc := hA.cell
    have mz := hA.lt
    by_cases hjl : j < v.f.length
    · have hjl' : (j : Int) < v.f.length := by omega
      obtain ⟨b, off, c, rfl, hbl, _, hcn, hc, hr⟩ := HF.out j v.f[j] (List.getElem?_eq_getElem hjl)
      have hbr : b < wr.heap.size := Nat.lt_of_lt_of_le hbl hB.size
      obtain ⟨k1, n1, s1, a1, l1, c1, a2, l2, c2, rfl, g0, g1, g2, g3, g4⟩ := rep_cells (hr.later hB) (hc.later hbl hB)
      have gn := (hB.cell (p := ⟨b, off + j * 6, none⟩) hbl).trans hcn
      have HR := hid hr
      clear hr hc hcn
      cases hp : (v.f[j].1.toList == name.toList)
      · have HP := hid hp
        go_wp2_with fail
        go_roundw
        case rel =>
          refine ⟨j + 1, by go_num, by omega, fun i q hi hq => ?_, hA, hR, hB⟩
          by_cases hij : i = j
          · rw [hij, List.getElem?_eq_getElem hjl] at hq
            cases hq
            exact HP.out
          · exact HZ.out i q (by omega) hq
        case measure => simp [intOf]; omega
      · have HG := hid (getF_some (List.getElem?_eq_getElem hjl) hp HZ.out)
        go_wp2_with (refine wpList_store_row rfl 26 (.tmp 4) (.tmp 27) rfl (w.heap.size + 1) #[.int .i64 k1, .int .i64 n1, .string s1, .slice a1 l1 c1, .slice a2 l2 c2] rfl rfl 26 #[.int .i64 0, .int .i64 0, .string ⟨#[]⟩, .slice none 0 0, .slice none 0 0] hR (by kernel_rfl) rfl (by simp [Value.oneCell']) ?_)
        have rc := (hR.setRow #[.int .i64 k1, .int .i64 n1, .string s1, .slice a1 l1 c1, .slice a2 l2 c2]).cell
        refine bodyPost_ret (v := .tuple #[.agg #[.int .i64 k1, .int .i64 n1, .string s1, .slice a1 l1 c1, .slice a2 l2 c2], .bool true]) (by simp [results, Tryz.results51, go_sem, rc]) rfl ⟨⟨[.int .i64 k1, .int .i64 n1, .string s1, .slice a1 l1 c1, .slice a2 l2 c2], by rw [HG.out]; rfl, ?_⟩, below_setRow hB (by omega) _⟩
        rw [HG.out]
        exact (HR.out.later (below_setRow hB (by omega) _)).mono (by omega)
    · have hjl' : ¬ (j : Int) < v.f.length := by omega
      have HG := hid (getF_none (name := name) (f := v.f) (fun q hq => by
        obtain ⟨i, hi⟩ := List.getElem?_of_mem hq
        exact HZ.out i q (by have := (List.getElem?_eq_some_iff.1 hi).1; omega) hi))
      go_wp2_with (refine wpList_store_row rfl 26 (.tmp 4) (.tmp 28) rfl (w.heap.size + 1) #[.int .i64 0, .int .i64 0, .string ⟨#[]⟩, .slice none 0 0, .slice none 0 0] rfl rfl 26 #[.int .i64 0, .int .i64 0, .string ⟨#[]⟩, .slice none 0 0, .slice none 0 0] hR (by kernel_rfl) rfl (by simp [Value.oneCell']) ?_)
      go_wp2_with fail
      have rc := (hR.setRow #[.int .i64 0, .int .i64 0, .string ⟨#[]⟩, .slice none 0 0, .slice none 0 0]).cell
      refine bodyPost_ret (v := .tuple #[.agg #[.int .i64 0, .int .i64 0, .string ⟨#[]⟩, .slice none 0 0, .slice none 0 0], .bool false]) (by simp [results, Tryz.results51, go_sem, rc]) rfl ⟨⟨[.int .i64 0, .int .i64 0, .string ⟨#[]⟩, .slice none 0 0, .slice none 0 0], by rw [HG.out]; rfl, by rw [HG.out]; exact rep_zero e _⟩, below_setRow hB (by omega) _⟩
end Go.Proofs.YtefbfgcbbpmhlabGreatDoor

/-
  A field that is set: the document's own answer.
-/
namespace Go.Proofs.YtefbfgcbbpmhlabGreatDoor
open Go.RowKit
set_option maxRecDepth 100000

/-- Fields, and the cells of their values. -/
abbrev FC := (ByteArray × V) × List Value
def FC.cells (o : FC) : List Value := .string o.1.1 :: o.2
def FC.ok (d : Nat) (w : World) (o : FC) : Prop := o.1.1.size ≤ maxLen ∧ RepN d w o.1.2 o.2
def flatO (O : List FC) : List Value := O.flatMap FC.cells
theorem flatO_append (O O' : List FC) : flatO (O ++ O') = flatO O ++ flatO O' := List.flatMap_append
theorem flatO_one (o : FC) : flatO [o] = o.cells := by simp [flatO]
theorem FC.len {d : Nat} {w : World} {o : FC} (h : o.ok d w) : o.cells.length = 6 := by simp [FC.cells, rep_len h.2]
theorem flatO_len {d : Nat} {w : World} : ∀ {O : List FC}, (∀ o ∈ O, o.ok d w) → (flatO O).length = O.length * 6
  | [], _ => rfl
  | o :: O, h => by
    have := flatO_len (O := O) (fun p hp => h p (by simp [hp]))
    have h1 := FC.len (h o (by simp))
    rw [flatO, List.flatMap_cons, List.length_append, List.length_cons, h1, show (List.flatMap FC.cells O).length = O.length * 6 from this]; omega
theorem flatO_get {d : Nat} {w : World} : ∀ {O : List FC} {i : Nat} {o : FC}, (∀ o ∈ O, o.ok d w) → O[i]? = some o → ∀ j, j < 6 → (flatO O)[i * 6 + j]? = o.cells[j]?
  | [], i, o, _, h, _, _ => by simp at h
  | p :: O, 0, o, hk, h, j, hj => by
    simp at h; subst h
    have := FC.len (hk p (by simp))
    rw [flatO, List.flatMap_cons, List.getElem?_append_left (by omega)]; simp
  | p :: O, i + 1, o, hk, h, j, hj => by
    have h1 := FC.len (hk p (by simp))
    have ih := flatO_get (O := O) (fun q hq => hk q (by simp [hq])) (show O[i]? = some o by simpa using h) j hj
    rw [flatO, List.flatMap_cons, List.getElem?_append_right (by omega), h1, show (i + 1) * 6 + j - 6 = i * 6 + j by omega]
    exact ih
/-- A row of fields that a call owns is a list of fields. -/
theorem own_fields {d base : Nat} {w wr : World} {t : Value} {O : List FC} (h : wr.ownsRow base 91 6 t O.length (flatO O)) (hk : ∀ o ∈ O, o.ok d w) (hb : Below w.heap.size w wr) :
    ∃ af cf, t = .slice af O.length cf ∧ FAt d wr (O.map (·.1)) af := by
  rcases h.2 with ⟨rfl, h0⟩ | ⟨g, cap, cur, rfl, _, hg, _⟩
  · refine ⟨none, 0, by rw [h0], fun i q hq => ?_⟩
    have : O = [] := List.eq_nil_of_length_eq_zero h0
    subst this; simp at hq
  · refine ⟨_, cap, rfl, fun i q hq => ?_⟩
    rw [List.getElem?_map, Option.map_eq_some_iff] at hq
    obtain ⟨o, ho, rfl⟩ := hq
    have hi := (List.getElem?_eq_some_iff.1 ho).1
    have ok := hk o (List.mem_of_getElem? ho)
    have cell : ∀ j, j < 6 → wr.cell? ⟨g, i * 6 + j, none⟩ = o.cells[j]? := fun j hj => by
      rw [h.cellAt _ (by omega), flatO_get hk ho j hj]
    refine ⟨g, 0, o.2, rfl, (Array.getElem?_eq_some_iff.1 hg).1, ok.1, ?_, fun j c hc => ?_, ok.2.later hb⟩
    · rw [Nat.zero_add]; exact cell 0 (by omega)
    · have hj := (List.getElem?_eq_some_iff.1 hc).1
      rw [rep_len ok.2] at hj
      have := cell (1 + j) (by omega)
      rw [Nat.zero_add, Nat.add_assoc, this, Nat.add_comm 1 j]
      simpa [FC.cells] using hc
theorem news_at {w : World} {cells : Array Value} {vs : List Value} {e : TypeId} (hx : cells = vs.toArray) (j : Nat) (u : Value) (h : vs[j]? = some u) : (w.alloc (.cells cells e)).cell? ((⟨w.heap.size, 0, none⟩ : Addr).add j) = some u := by
  subst hx
  rw [Lib.add_plain, World.cell?_alloc_new]; simpa using h
/-- How far setting has come. -/
structure Laying (d : Nat) (w wb : World) (name : ByteArray) (x : V) (f : List (ByteArray × V)) (t : Value) (laid : Bool) (j : Nat) (wr : World) (O : List FC) : Prop where
  own : wr.ownsRow wb.heap.size 91 6 t O.length (flatO O)
  ok : ∀ o ∈ O, o.ok d w
  below : Below wb.heap.size wb wr
  eq : O.map (·.1) ++ rsetF name x (f.drop j) laid = rsetF name x f false
  len : O.length ≤ j + 1
  len0 : laid = false → O.length ≤ j
end Go.Proofs.YtefbfgcbbpmhlabGreatDoor
