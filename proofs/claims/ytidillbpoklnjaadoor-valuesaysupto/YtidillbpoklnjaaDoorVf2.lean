/-
  The law on values, walked.
-/
import Derived.Test.YtidillbpoklnjaaDoorVf1
import Derived.Test.YtidillbpoklnjaaDoorVe6
import Derived.Test.YtidillbpoklnjaaDoorVaa
import Derived.Deep.RegionHeld3
namespace Go.Proofs.YtidillbpoklnjaaDoor
open Go.RowKit
set_option maxRecDepth 100000
attribute [local go_sem ↓] Go.wp_at_zero Go.wp_at_succ

theorem AnsB.true_of {P : Prop} {e : Ending} (h : AnsB e P) (hp : P) : e = .returned (.bool true) := by
  rcases h with ⟨h, _⟩ | ⟨_, hn⟩
  · exact h
  · exact absurd hp hn
theorem AnsB.false_of {P : Prop} {e : Ending} (h : AnsB e P) (hp : ¬ P) : e = .returned (.bool false) := by
  rcases h with ⟨_, hn⟩ | ⟨h, _⟩
  · exact absurd hn hp
  · exact h
set_option maxHeartbeats 2000000 in
theorem valueSays_any (m : Int) (E : Nat) (v o : V) (name : ByteArray) (cv co : List Value) (w : World) (hr : Rdy m w) (hv : RepN (E + 1) w v cv) (ho : RepN (E + 1) w o co) (hcv : v.cnt ≤ 1048576) (hco : o.cnt ≤ 1048576) (hnm : name.size ≤ maxLen) :
    Calls Tryd.prog 6 #[.agg cv.toArray, .agg co.toArray, .string name] w fun e w' => e = .returned (.bool true) ∧ Below w.heap.size w w' := by
  have HV := hid hv
  have HO := hid ho
  have HNM := hid hnm
  unfold maxLen at hnm
  obtain ⟨al, af, cl, cf, rfl, _⟩ := hv
  obtain ⟨al2, af2, cl2, cf2, rfl, _⟩ := ho
  go_enter Tryd.func6, Tryd.ntmps6
  go_wp2_with (go_at_call 29; fail)
  go_at_call 29
  refine (values_any m _ (hr.below (by go_grown))).mono ?_
  rintro e1 w1 ⟨rfl, hb1⟩
  have hB1 : Below w.heap.size w w1 := Below.trans (by go_grown) (hb1.mono (by simp; omega))
  have A0 := At.later ((At.new w _ _ rfl).alloc _) hb1
  have A1 := At.later (At.new (w.alloc _) _ _ (by simp) : At _ (w.heap.size + 1) _ _) hb1
  have c0 := A0.cell
  have z0 := A0.lt
  have c1 := A1.cell
  have z1 := A1.lt
  clear hb1
  go_wp2_with (go_at_call 30; fail)
  go_at_call 30
  refine (LightValue_any (HV.out.later hB1)).mono ?_
  rintro e2 w2 ⟨⟨r2, rfl⟩, hb2⟩
  have hB2 := hB1.trans (hb2.mono hB1.size)
  replace A0 := A0.later hb2
  replace A1 := A1.later hb2
  clear c0 z0 c1 z1 hb2 hB1
  have c0 := A0.cell
  have z0 := A0.lt
  have c1 := A1.cell
  have z1 := A1.lt
  cases r2
  · go_wp2_with fail
    go_ret
    exact ⟨rfl, hB2⟩
  go_wp2_with (go_at_call 30; fail)
  go_at_call 30
  refine (LightValue_any (HO.out.later hB2)).mono ?_
  rintro e3 w3 ⟨⟨r3, rfl⟩, hb3⟩
  have hB3 := hB2.trans (hb3.mono hB2.size)
  replace A0 := A0.later hb3
  replace A1 := A1.later hb3
  clear c0 z0 c1 z1 hb3 hB2
  have c0 := A0.cell
  have z0 := A0.lt
  have c1 := A1.cell
  have z1 := A1.lt
  cases r3
  · go_wp2_with fail
    go_ret
    exact ⟨rfl, hB3⟩
  by_cases hn : (300 : Int) < name.size
  · go_wp2_with fail
    go_ret
    exact ⟨rfl, hB3⟩
  go_wp2_with (go_at_call 31; fail)
  go_at_call 31
  refine (valueFault_says (HV.out.later hB3) hcv).mono ?_
  rintro e4 w4 ⟨rfl, hb4⟩
  have hB4 := hB3.trans (hb4.mono hB3.size)
  replace A0 := A0.later hb4
  replace A1 := A1.later hb4
  clear c0 z0 c1 z1 hb4 hB3
  have c0 := A0.cell
  have z0 := A0.lt
  have c1 := A1.cell
  have z1 := A1.lt
  have HFC := hid (fault_cases v)
  generalize hft : faultV v = ft at *
  have HFT := hid hft
  clear hft
  go_wp2_with (go_at_call 32; fail)
  go_at_call 32
  refine (vText_says (hr.below hB4) (HV.out.later hB4) hcv).mono ?_
  rw [HFT.out]
  rintro e5 w5 ⟨rfl, hb5⟩
  have hB5 := hB4.trans (hb5.mono hB4.size)
  replace A0 := A0.later hb5
  replace A1 := A1.later hb5
  clear c0 z0 c1 z1 hb5 hB4
  have c0 := A0.cell
  have z0 := A0.lt
  have c1 := A1.cell
  have z1 := A1.lt
  generalize htv : textV v = tx at *
  have HTV := hid htv
  clear htv
  go_upto_region 6 with fail
  go_cut [77] from 42 to 77 (fun t wx => t = .bool false ∧ At wx w.heap.size 64 #[.int .i64 v.k, .int .i64 v.n, .string v.s, .slice al v.l.length cl, .slice af v.f.length cf] ∧ At wx (w.heap.size + 1) 64 #[.int .i64 o.k, .int .i64 o.n, .string o.s, .slice al2 o.l.length cl2, .slice af2 o.f.length cf2] ∧ Below w.heap.size w wx)
  case first =>
    have hft0 : 0 ≤ ft := by rcases HFC.out with ⟨h, _⟩ | h | h <;> omega
    go_wp2_with (go_at_call 33; fail)
    go_at_call 33
    refine (check_says (HV.out.later hB5) hcv).mono ?_
    rw [HFT.out]
    rintro e6 w6 ⟨rfl, hb6⟩
    have hB6 := hB5.trans (hb6.mono hB5.size)
    replace A0 := A0.later hb6
    replace A1 := A1.later hb6
    clear c0 z0 c1 z1 hb6 hB5
    have c0 := A0.cell
    have z0 := A0.lt
    have c1 := A1.cell
    have z1 := A1.lt
    go_wp2_with (go_at_call 8; fail)
    go_at_call 8
    refine (same_any ft ft _ (by omega)).mono ?_
    rw [beq_self_eq_true]
    rintro e7 w7 ⟨rfl, rfl⟩
    go_wp2_with (go_at_call 8; fail)
    go_at_call 8
    refine (same_any ft ft _ (by omega)).mono ?_
    rw [beq_self_eq_true]
    rintro e7 w7 ⟨rfl, rfl⟩
    by_cases hf0 : ft = 0
    · have hsh : v.Shp ∧ v.cnt ≤ 300 := by rcases HFC.out with ⟨_, h⟩ | h | h <;> first | exact h | omega
      have HSH := hid hsh
      have HBK := hid (show v.bulk ≤ 150000 by have := bulk_shp v hsh.1; omega)
      obtain rfl : tx = ⟨v.txt.toArray⟩ := by rw [← HTV.out]; unfold textV; rw [HFT.out, if_pos hf0]
      clear hsh
      subst hf0
      go_wp2_with (go_at_call 34; fail)
      go_at_call 34
      refine (valueText_says _ v _ _ (HV.out.later hB6) HSH.out.1 HBK.out).mono ?_
      rintro e7 w7 ⟨rfl, hb7⟩
      have hB7 := hB6.trans (hb7.mono hB6.size)
      replace A0 := A0.later hb7
      replace A1 := A1.later hb7
      clear c0 z0 c1 z1 hb7 hB6
      have c0 := A0.cell
      have z0 := A0.lt
      have c1 := A1.cell
      have z1 := A1.lt
      go_wp2_with (first
        | (go_at_call 35; refine (vNameMay name _ HNM.out).mono ?_; rintro e8 w8 ⟨rfl, rfl⟩)
        | (go_at_call 36; refine (rNameMay name _ HNM.out).mono ?_; rintro e9 w9 ⟨rfl, rfl⟩))
      all_goals go_meet
      all_goals exact ⟨by simp, A0, A1, hB7⟩
    · obtain rfl : tx = ⟨#[]⟩ := by rw [← HTV.out]; unfold textV; rw [HFT.out, if_neg hf0]
      have hf1 : 0 < ft := by omega
      go_wp2_with (first
        | (go_at_call 35; refine (vNameMay name _ HNM.out).mono ?_; rintro e8 w8 ⟨rfl, rfl⟩)
        | (go_at_call 36; refine (rNameMay name _ HNM.out).mono ?_; rintro e9 w9 ⟨rfl, rfl⟩))
      all_goals go_meet
      all_goals exact ⟨by simp, A0, A1, hB6⟩
  case rest =>
    clear A0 A1 c0 z0 c1 z1 hB5
    obtain ⟨rfl, A0, A1, hB5⟩ := hcut
    have c0 := A0.cell
    have z0 := A0.lt
    have c1 := A1.cell
    have z1 := A1.lt
    have hVB := hid (HV.out.later hB5)
    go_wp2_with (go_at_call 37; fail)
    go_at_call 37
    refine (copy_says hVB.out hcv).mono ?_
    rintro e6 w6 ⟨cc, rfl, hg6, hb6⟩
    have HG6 := hid hg6.rep
    obtain ⟨al3, af3, cl3, cf3, bl3, bf3, rfl, _⟩ := hg6
    have hB6 := hB5.trans (hb6.mono hB5.size)
    replace A0 := A0.later hb6
    replace A1 := A1.later hb6
    clear c0 z0 c1 z1 hb6 hB5 hVB
    have c0 := A0.cell
    have z0 := A0.lt
    have c1 := A1.cell
    have z1 := A1.lt
    go_wp2_with (go_at_call 38; fail)
    go_at_call 38
    refine (vGet_says name (HV.out.later (hB6.alloc hB6.size _)) hcv).mono ?_
    rintro e7 w7 ⟨⟨cx, rfl, hx7⟩, hb7⟩
    have A2 := At.later (At.new w6 _ _ rfl) hb7
    have HG7 := hid ((HG6.out.later ((Below.refl _ _).alloc (Nat.le_refl _) _)).later hb7)
    have HX7 := hid hx7
    have hcx5 := rep_len hx7
    have hB7 := (hB6.alloc hB6.size _).trans (hb7.mono (by have := hB6.size; simp; omega))
    replace A0 := (A0.alloc _).later hb7
    replace A1 := (A1.alloc _).later hb7
    obtain ⟨al4, af4, cl4, cf4, rfl, _⟩ := hx7
    clear c0 z0 c1 z1 hb7 hB6 HG6 hcx5
    have c0 := A0.cell
    have z0 := A0.lt
    have c1 := A1.cell
    have z1 := A1.lt
    have z2 := A2.lt
    go_wp2_with (go_at_call 39; fail)
    go_at_call 39
    refine (rGet_says name (HV.out.later (hB7.alloc hB7.size _))).mono ?_
    rintro e8 w8 ⟨⟨cy, rfl, hy8⟩, hb8⟩
    have A3 := At.later (At.new w7 _ _ rfl) hb8
    have HG8 := hid ((HG7.out.later ((Below.refl _ _).alloc (Nat.le_refl _) _)).later hb8)
    have HX8 := hid ((HX7.out.later ((Below.refl _ _).alloc (Nat.le_refl _) _)).later hb8)
    have HY8 := hid hy8
    have hB8 := (hB7.alloc hB7.size _).trans (hb8.mono (by have := hB7.size; simp; omega))
    replace A0 := (A0.alloc _).later hb8
    replace A1 := (A1.alloc _).later hb8
    replace A2 := (A2.alloc _).later hb8
    obtain ⟨al5, af5, cl5, cf5, rfl, _⟩ := hy8
    clear c0 z0 c1 z1 z2 hb8 hB7 HG7 HX7
    go_wp2_with fail
    have A4 := At.new w8 #[.int .i64 ((getF name v.f).getD V.zero).k, .int .i64 ((getF name v.f).getD V.zero).n, .string ((getF name v.f).getD V.zero).s, .slice al5 ((getF name v.f).getD V.zero).l.length cl5, .slice af5 ((getF name v.f).getD V.zero).f.length cf5] 64 rfl
    have HV9 := hid (HV.out.later (hB8.alloc hB8.size (.cells #[.int .i64 ((getF name v.f).getD V.zero).k, .int .i64 ((getF name v.f).getD V.zero).n, .string ((getF name v.f).getD V.zero).s, .slice al5 ((getF name v.f).getD V.zero).l.length cl5, .slice af5 ((getF name v.f).getD V.zero).f.length cf5] 64)))
    have HO9 := hid (HO.out.later (hB8.alloc hB8.size (.cells #[.int .i64 ((getF name v.f).getD V.zero).k, .int .i64 ((getF name v.f).getD V.zero).n, .string ((getF name v.f).getD V.zero).s, .slice al5 ((getF name v.f).getD V.zero).l.length cl5, .slice af5 ((getF name v.f).getD V.zero).f.length cf5] 64)))
    have HC9 := hid (HG8.out.later ((Below.refl w8.heap.size w8).alloc (Nat.le_refl _) (.cells #[.int .i64 ((getF name v.f).getD V.zero).k, .int .i64 ((getF name v.f).getD V.zero).n, .string ((getF name v.f).getD V.zero).s, .slice al5 ((getF name v.f).getD V.zero).l.length cl5, .slice af5 ((getF name v.f).getD V.zero).f.length cf5] 64)))
    have HX9 := hid (HX8.out.later ((Below.refl w8.heap.size w8).alloc (Nat.le_refl _) (.cells #[.int .i64 ((getF name v.f).getD V.zero).k, .int .i64 ((getF name v.f).getD V.zero).n, .string ((getF name v.f).getD V.zero).s, .slice al5 ((getF name v.f).getD V.zero).l.length cl5, .slice af5 ((getF name v.f).getD V.zero).f.length cf5] 64)))
    have HY9 := hid (HY8.out.later ((Below.refl w8.heap.size w8).alloc (Nat.le_refl _) (.cells #[.int .i64 ((getF name v.f).getD V.zero).k, .int .i64 ((getF name v.f).getD V.zero).n, .string ((getF name v.f).getD V.zero).s, .slice al5 ((getF name v.f).getD V.zero).l.length cl5, .slice af5 ((getF name v.f).getD V.zero).f.length cf5] 64)))
    replace A0 := A0.alloc (.cells #[.int .i64 ((getF name v.f).getD V.zero).k, .int .i64 ((getF name v.f).getD V.zero).n, .string ((getF name v.f).getD V.zero).s, .slice al5 ((getF name v.f).getD V.zero).l.length cl5, .slice af5 ((getF name v.f).getD V.zero).f.length cf5] 64)
    replace A1 := A1.alloc (.cells #[.int .i64 ((getF name v.f).getD V.zero).k, .int .i64 ((getF name v.f).getD V.zero).n, .string ((getF name v.f).getD V.zero).s, .slice al5 ((getF name v.f).getD V.zero).l.length cl5, .slice af5 ((getF name v.f).getD V.zero).f.length cf5] 64)
    replace A2 := A2.alloc (.cells #[.int .i64 ((getF name v.f).getD V.zero).k, .int .i64 ((getF name v.f).getD V.zero).n, .string ((getF name v.f).getD V.zero).s, .slice al5 ((getF name v.f).getD V.zero).l.length cl5, .slice af5 ((getF name v.f).getD V.zero).f.length cf5] 64)
    replace A3 := A3.alloc (.cells #[.int .i64 ((getF name v.f).getD V.zero).k, .int .i64 ((getF name v.f).getD V.zero).n, .string ((getF name v.f).getD V.zero).s, .slice al5 ((getF name v.f).getD V.zero).l.length cl5, .slice af5 ((getF name v.f).getD V.zero).f.length cf5] 64)
    have hB9 := hB8.alloc hB8.size (.cells #[.int .i64 ((getF name v.f).getD V.zero).k, .int .i64 ((getF name v.f).getD V.zero).n, .string ((getF name v.f).getD V.zero).s, .slice al5 ((getF name v.f).getD V.zero).l.length cl5, .slice af5 ((getF name v.f).getD V.zero).f.length cf5] 64)
    generalize w8.alloc (.cells #[.int .i64 ((getF name v.f).getD V.zero).k, .int .i64 ((getF name v.f).getD V.zero).n, .string ((getF name v.f).getD V.zero).s, .slice al5 ((getF name v.f).getD V.zero).l.length cl5, .slice af5 ((getF name v.f).getD V.zero).f.length cf5] 64) = w9 at *
    generalize w6.heap.size = bC at *
    generalize w7.heap.size = bX at *
    generalize w8.heap.size = bY at *
    generalize (getF name v.f).getD V.zero = g at *
    generalize (getF name v.f).isSome = hs at *
    clear HG8 HX8 HY8 hB8
    go_cut [115] from 92 to 115 (fun t wx => t = .bool false ∧ Below w9.heap.size w9 wx)
    case first =>
      have s0 := A0.cell
      have s1 := A1.cell
      have s2 := A2.cell
      have s3 := A3.cell
      have s4 := A4.cell
      by_cases hvo : v = o
      · have HVO := hid hvo
        clear hvo
        cases hs
        all_goals
          go_region_held3 (fun w' => (∀ q, w'.cell? ⟨w.heap.size, q, none⟩ = (#[.int .i64 v.k, .int .i64 v.n, .string v.s, .slice al v.l.length cl, .slice af v.f.length cf] : Array Value)[q]?) ∧ (∀ q, w'.cell? ⟨w.heap.size + 1, q, none⟩ = (#[.int .i64 o.k, .int .i64 o.n, .string o.s, .slice al2 o.l.length cl2, .slice af2 o.f.length cf2] : Array Value)[q]?) ∧ (∀ q, w'.cell? ⟨bC, q, none⟩ = (#[.int .i64 v.k, .int .i64 v.n, .string v.s, .slice al3 v.l.length cl3, .slice af3 v.f.length cf3] : Array Value)[q]?) ∧ (∀ q, w'.cell? ⟨bX, q, none⟩ = (#[.int .i64 g.k, .int .i64 g.n, .string g.s, .slice al4 g.l.length cl4, .slice af4 g.f.length cf4] : Array Value)[q]?) ∧ (∀ q, w'.cell? ⟨bY, q, none⟩ = (#[.int .i64 g.k, .int .i64 g.n, .string g.s, .slice al5 g.l.length cl5, .slice af5 g.f.length cf5] : Array Value)[q]?))
            (first | exact ⟨(A0.later HBf.out).cell, (A1.later HBf.out).cell, (A2.later HBf.out).cell, (A3.later HBf.out).cell, (A4.later HBf.out).cell⟩ | exact ⟨(A0.later HBd.out).cell, (A1.later HBd.out).cell, (A2.later HBd.out).cell, (A3.later HBd.out).cell, (A4.later HBd.out).cell⟩ | exact ⟨(A0.later HBb.out).cell, (A1.later HBb.out).cell, (A2.later HBb.out).cell, (A3.later HBb.out).cell, (A4.later HBb.out).cell⟩ | exact ⟨(A0.later HBa.out).cell, (A1.later HBa.out).cell, (A2.later HBa.out).cell, (A3.later HBa.out).cell, (A4.later HBa.out).cell⟩ | exact ⟨A0.cell, A1.cell, A2.cell, A3.cell, A4.cell⟩)
            (first
              | (go_at_call_of 40 (Value.agg #[.int .i64 v.k, .int .i64 v.n, .string v.s, .slice al3 v.l.length cl3, .slice af3 v.f.length cf3]); refine (alike_says (E + 1) v v _ _ _ (HC9.out.later (by first | exact (Below.refl _ _).drew | exact Below.refl _ _)) (HV9.out.later (by first | exact (Below.refl _ _).drew | exact Below.refl _ _))).mono ?_; rintro e1 wa ⟨ha, hba⟩; obtain rfl := ha.true_of rfl; have HBa := hid (show Below w9.heap.size w9 wa from by first | exact below_undrew hba | exact hba); clear hba ha)
              | (go_at_call 41; refine (vAlike_says v o _ _ (HV9.out.later (by first | exact HBa.out | exact HBa.out.drew)) (HO9.out.later (by first | exact HBa.out | exact HBa.out.drew)) hcv).mono ?_; rintro e2 wb ⟨hb, hbb⟩; obtain rfl := hb.true_of HVO.out; have HBb := hid (show Below w9.heap.size w9 wb from HBa.out.trans ((by first | exact below_undrew hbb | exact hbb : Below wa.heap.size wa wb).mono HBa.out.size)); clear hbb hb)
              | (go_at_call_of 40 (Value.agg #[.int .i64 v.k, .int .i64 v.n, .string v.s, .slice al v.l.length cl, .slice af v.f.length cf]); refine (alike_says (E + 1) v o _ _ _ (HV9.out.later (by first | exact HBb.out | exact HBb.out.drew)) (HO9.out.later (by first | exact HBb.out | exact HBb.out.drew))).mono ?_; rintro e3 wd ⟨hd, hbd⟩; obtain rfl := hd.true_of HVO.out; have HBd := hid (show Below w9.heap.size w9 wd from HBb.out.trans ((by first | exact below_undrew hbd | exact hbd : Below wb.heap.size wb wd).mono HBb.out.size)); clear hbd hd)
              | (go_at_call_of 40 (Value.agg #[.int .i64 g.k, .int .i64 g.n, .string g.s, .slice al4 g.l.length cl4, .slice af4 g.f.length cf4]); refine (alike_says (E + 1) g g _ _ _ (HX9.out.later (by first | exact HBd.out | exact HBd.out.drew)) (HY9.out.later (by first | exact HBd.out | exact HBd.out.drew))).mono ?_; rintro e4 wf ⟨hf, hbf⟩; obtain rfl := hf.true_of rfl; have HBf := hid (show Below w9.heap.size w9 wf from HBd.out.trans ((by first | exact below_undrew hbf | exact hbf : Below wd.heap.size wd wf).mono HBd.out.size)); clear hbf hf))
          all_goals go_wp2_with fail
          all_goals go_meet
          all_goals exact ⟨by first | rfl | simp, by first | exact HBf.out | exact HBf.out.drew⟩
      · have HVO := hid hvo
        clear hvo
        cases hs
        all_goals
          go_region_held3 (fun w' => (∀ q, w'.cell? ⟨w.heap.size, q, none⟩ = (#[.int .i64 v.k, .int .i64 v.n, .string v.s, .slice al v.l.length cl, .slice af v.f.length cf] : Array Value)[q]?) ∧ (∀ q, w'.cell? ⟨w.heap.size + 1, q, none⟩ = (#[.int .i64 o.k, .int .i64 o.n, .string o.s, .slice al2 o.l.length cl2, .slice af2 o.f.length cf2] : Array Value)[q]?) ∧ (∀ q, w'.cell? ⟨bC, q, none⟩ = (#[.int .i64 v.k, .int .i64 v.n, .string v.s, .slice al3 v.l.length cl3, .slice af3 v.f.length cf3] : Array Value)[q]?) ∧ (∀ q, w'.cell? ⟨bX, q, none⟩ = (#[.int .i64 g.k, .int .i64 g.n, .string g.s, .slice al4 g.l.length cl4, .slice af4 g.f.length cf4] : Array Value)[q]?) ∧ (∀ q, w'.cell? ⟨bY, q, none⟩ = (#[.int .i64 g.k, .int .i64 g.n, .string g.s, .slice al5 g.l.length cl5, .slice af5 g.f.length cf5] : Array Value)[q]?))
            (first | exact ⟨(A0.later HBf.out).cell, (A1.later HBf.out).cell, (A2.later HBf.out).cell, (A3.later HBf.out).cell, (A4.later HBf.out).cell⟩ | exact ⟨(A0.later HBd.out).cell, (A1.later HBd.out).cell, (A2.later HBd.out).cell, (A3.later HBd.out).cell, (A4.later HBd.out).cell⟩ | exact ⟨(A0.later HBb.out).cell, (A1.later HBb.out).cell, (A2.later HBb.out).cell, (A3.later HBb.out).cell, (A4.later HBb.out).cell⟩ | exact ⟨(A0.later HBa.out).cell, (A1.later HBa.out).cell, (A2.later HBa.out).cell, (A3.later HBa.out).cell, (A4.later HBa.out).cell⟩ | exact ⟨A0.cell, A1.cell, A2.cell, A3.cell, A4.cell⟩)
            (first
              | (go_at_call_of 40 (Value.agg #[.int .i64 v.k, .int .i64 v.n, .string v.s, .slice al3 v.l.length cl3, .slice af3 v.f.length cf3]); refine (alike_says (E + 1) v v _ _ _ (HC9.out.later (by first | exact (Below.refl _ _).drew | exact Below.refl _ _)) (HV9.out.later (by first | exact (Below.refl _ _).drew | exact Below.refl _ _))).mono ?_; rintro e1 wa ⟨ha, hba⟩; obtain rfl := ha.true_of rfl; have HBa := hid (show Below w9.heap.size w9 wa from by first | exact below_undrew hba | exact hba); clear hba ha)
              | (go_at_call 41; refine (vAlike_says v o _ _ (HV9.out.later (by first | exact HBa.out | exact HBa.out.drew)) (HO9.out.later (by first | exact HBa.out | exact HBa.out.drew)) hcv).mono ?_; rintro e2 wb ⟨hb, hbb⟩; obtain rfl := hb.false_of HVO.out; have HBb := hid (show Below w9.heap.size w9 wb from HBa.out.trans ((by first | exact below_undrew hbb | exact hbb : Below wa.heap.size wa wb).mono HBa.out.size)); clear hbb hb)
              | (go_at_call_of 40 (Value.agg #[.int .i64 v.k, .int .i64 v.n, .string v.s, .slice al v.l.length cl, .slice af v.f.length cf]); refine (alike_says (E + 1) v o _ _ _ (HV9.out.later (by first | exact HBb.out | exact HBb.out.drew)) (HO9.out.later (by first | exact HBb.out | exact HBb.out.drew))).mono ?_; rintro e3 wd ⟨hd, hbd⟩; obtain rfl := hd.false_of HVO.out; have HBd := hid (show Below w9.heap.size w9 wd from HBb.out.trans ((by first | exact below_undrew hbd | exact hbd : Below wb.heap.size wb wd).mono HBb.out.size)); clear hbd hd)
              | (go_at_call_of 40 (Value.agg #[.int .i64 g.k, .int .i64 g.n, .string g.s, .slice al4 g.l.length cl4, .slice af4 g.f.length cf4]); refine (alike_says (E + 1) g g _ _ _ (HX9.out.later (by first | exact HBd.out | exact HBd.out.drew)) (HY9.out.later (by first | exact HBd.out | exact HBd.out.drew))).mono ?_; rintro e4 wf ⟨hf, hbf⟩; obtain rfl := hf.true_of rfl; have HBf := hid (show Below w9.heap.size w9 wf from HBd.out.trans ((by first | exact below_undrew hbf | exact hbf : Below wd.heap.size wd wf).mono HBd.out.size)); clear hbf hf))
          all_goals go_wp2_with fail
          all_goals go_meet
          all_goals exact ⟨by first | rfl | simp, by first | exact HBf.out | exact HBf.out.drew⟩
    case rest =>
      obtain ⟨rfl, hbx⟩ := hcut
      replace A0 := A0.later hbx
      replace A1 := A1.later hbx
      replace A2 := A2.later hbx
      have HV10 := hid (HV9.out.later hbx)
      have HO10 := hid (HO9.out.later hbx)
      have HC10 := hid (HC9.out.later hbx)
      have hB10 := hB9.trans (hbx.mono hB9.size)
      clear A3 A4 HV9 HO9 HC9 HX9 HY9 hbx hB9
      obtain ⟨w10, hw10⟩ : ∃ w10, w10 = wc := ⟨_, rfl⟩
      subst hw10
      have s0 := A0.cell
      have y0 := A0.lt
      go_upto_region 13 with fail
      go_cut [122] from 116 to 122 (fun t wx => (∃ b : Bool, t = .bool b ∧ (b = false → ¬ 0 < ft ∧ v.k = 6)) ∧ wx = w10)
      case first =>
        by_cases hf : 0 < ft
        · go_wp2_with fail
          go_meet
          exact ⟨⟨true, by simp, by simp⟩, rfl⟩
        · go_wp2_with fail
          go_meet
          exact ⟨⟨_, rfl, fun h => ⟨hf, by simpa using h⟩⟩, rfl⟩
      case rest =>
        obtain ⟨⟨b0, rfl, hb0⟩, hwx⟩ := hcut
        have hwy := hwx.symm
        clear hwx
        subst hwy
        cases b0
        · have hh := hb0 rfl
          have hsh : v.Shp := by rcases HFC.out with ⟨_, h, _⟩ | h | h <;> first | exact h | omega
          have hown := (own6 hh.2).1 ((shp_eq v).1 hsh).1
          have HN := hid hown.2.2.2
          have HL0 := hid (List.eq_nil_of_length_eq_zero hown.2.2.1)
          have hfl : v.f.length ≤ 1048576 := by
            have := cntF_ge v.f
            have := cnt_eq v
            omega
          clear hh hb0 hsh hown
          go_wp2_with fail
          go_region_held3 (fun w' => (∀ q, w'.cell? ⟨w.heap.size, q, none⟩ = (#[.int .i64 v.k, .int .i64 v.n, .string v.s, .slice al v.l.length cl, .slice af v.f.length cf] : Array Value)[q]?) ∧ (∀ q, w'.cell? ⟨w.heap.size + 1, q, none⟩ = (#[.int .i64 o.k, .int .i64 o.n, .string o.s, .slice al2 o.l.length cl2, .slice af2 o.f.length cf2] : Array Value)[q]?) ∧ (∀ q, w'.cell? ⟨bC, q, none⟩ = (#[.int .i64 v.k, .int .i64 v.n, .string v.s, .slice al3 v.l.length cl3, .slice af3 v.f.length cf3] : Array Value)[q]?))
            (first | exact ⟨(A0.later HB14.out).cell, (A1.later HB14.out).cell, (A2.later HB14.out).cell⟩ | exact ⟨(A0.later HB13.out).cell, (A1.later HB13.out).cell, (A2.later HB13.out).cell⟩ | exact ⟨(A0.later HB12.out).cell, (A1.later HB12.out).cell, (A2.later HB12.out).cell⟩ | exact ⟨(A0.later HB11.out).cell, (A1.later HB11.out).cell, (A2.later HB11.out).cell⟩ | exact ⟨A0.cell, A1.cell, A2.cell⟩)
            (first
              | (go_at_call 42; refine (vSet_says name HNM.out (HV10.out.later (by first | exact (Below.refl _ _).drew | exact Below.refl _ _)) (HO10.out.later (by first | exact (Below.refl _ _).drew | exact Below.refl _ _)) HN.out HL0.out hcv hco).mono ?_; rintro e1 w11 ⟨⟨k1, rfl, hk1⟩, hb11⟩; have HB11 := hid (show Below w10.heap.size w10 w11 from by first | exact below_undrew hb11 | exact hb11); have HK1 := hid hk1; clear hb11 hk1)
              | (go_at_call 43; refine (rSet_says name HNM.out (HV10.out.later (by first | exact HB11.out | exact HB11.out.drew)) (HO10.out.later (by first | exact HB11.out | exact HB11.out.drew)) hfl).mono ?_; rintro e2 w12 ⟨⟨k2, rfl, hk2⟩, hb12⟩; have HS12 := hid (by first | exact below_undrew hb12 | exact hb12 : Below w11.heap.size w11 w12); have HB12 := hid (show Below w10.heap.size w10 w12 from HB11.out.trans (HS12.out.mono HB11.out.size)); have HK2 := hid hk2; clear hb12 hk2)
              | (go_at_call_of 40 (Value.agg k1.toArray); refine (alike_says (E + 2) ⟨v.k, v.n, v.s, v.l, rsetF name o v.f false⟩ ⟨v.k, v.n, v.s, v.l, rsetF name o v.f false⟩ _ _ _ (HK1.out.later (by first | exact HS12.out | exact HS12.out.drew)) (HK2.out.later (by first | exact Below.refl _ _ | exact (Below.refl _ _).drew))).mono ?_; rintro e3 w13 ⟨ha, hb13⟩; obtain rfl := ha.true_of rfl; have HB13 := hid (show Below w10.heap.size w10 w13 from HB12.out.trans ((by first | exact below_undrew hb13 | exact hb13 : Below w12.heap.size w12 w13).mono HB12.out.size)); clear hb13 ha)
              | (go_at_call_of 40 (Value.agg #[.int .i64 v.k, .int .i64 v.n, .string v.s, .slice al v.l.length cl, .slice af v.f.length cf]); refine (alike_says (E + 1) v v _ _ _ (HV10.out.later (by first | exact HB13.out | exact HB13.out.drew)) (HC10.out.later (by first | exact HB13.out | exact HB13.out.drew))).mono ?_; rintro e4 w14 ⟨ha, hb14⟩; obtain rfl := ha.true_of rfl; have HB14 := hid (show Below w10.heap.size w10 w14 from HB13.out.trans ((by first | exact below_undrew hb14 | exact hb14 : Below w13.heap.size w13 w14).mono HB13.out.size)); clear hb14 ha))
          all_goals go_wp2_with fail
          all_goals go_ret
          all_goals exact ⟨by first | rfl | simp, hB10.trans ((by first | exact HB14.out | exact HB14.out.drew : Below w10.heap.size w10 _).mono hB10.size)⟩
        · clear hb0
          go_wp2_with fail
          go_ret
          exact ⟨rfl, hB10⟩
end Go.Proofs.YtidillbpoklnjaaDoor
