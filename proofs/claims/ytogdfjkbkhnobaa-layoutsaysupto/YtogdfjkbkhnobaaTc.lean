/-
  Lines of a page, the answer's (R.Lines).
-/
import Derived.Test.YtogdfjkbkhnobaaTb1
import Derived.Deep.RegionHeld3
namespace Go.Proofs.Ytogdfjkbkhnobaa
open Go.Shelf Go.RowKit Go.Lib Go.Sort
set_option maxRecDepth 1000000

/-- One number is moved to its place: those ahead, itself, those behind it. -/
def Mv (f : Int → Int) (zs : List Int) (x : Int) (k : Nat) (ys : List Int) : Prop := ∃ A C, ys = A ++ x :: C ∧ A ++ C = zs ∧ A.length = k ∧ ∀ c ∈ C, f x < f c
theorem Mv.start (f : Int → Int) (zs : List Int) (x : Int) : Mv f zs x zs.length (zs ++ [x]) := ⟨zs, [], rfl, by simp, rfl, fun c hc => by simp at hc⟩
theorem Mv.len {f : Int → Int} {zs ys : List Int} {x : Int} {k : Nat} (h : Mv f zs x k ys) : ys.length = zs.length + 1 ∧ k ≤ zs.length := by
  obtain ⟨A, C, rfl, rfl, rfl, _⟩ := h
  simp
  omega
theorem Mv.at_ {f : Int → Int} {zs ys : List Int} {x : Int} {k : Nat} (h : Mv f zs x k ys) : ys[k]? = some x := by
  obtain ⟨A, C, rfl, rfl, rfl, _⟩ := h
  simp
theorem Mv.ahead {f : Int → Int} {zs ys : List Int} {x : Int} {k : Nat} (h : Mv f zs x (k + 1) ys) : ∃ a, ys[k]? = some a ∧ a ∈ zs ∧ (f x < f a → Mv f zs x k ((ys.set (k + 1) a).set k x)) := by
  obtain ⟨A, C, rfl, rfl, hl, hC⟩ := h
  have hne : A ≠ [] := fun e => by subst e; simp at hl
  obtain ⟨A', a, rfl⟩ : ∃ A' a, A = A' ++ [a] := ⟨_, _, (List.dropLast_concat_getLast hne).symm⟩
  have hk : A'.length = k := by simpa using hl
  subst hk
  refine ⟨a, by simp, by simp, fun hf => ⟨A', a :: C, by rw [swap_list], by simp, rfl, fun c hc => ?_⟩⟩
  rcases List.mem_cons.1 hc with rfl | hc
  · exact hf
  · exact hC c hc
theorem Mv.perm {f : Int → Int} {zs ys : List Int} {x : Int} {k : Nat} (h : Mv f zs x k ys) : ys.Perm (zs ++ [x]) := by
  obtain ⟨A, C, rfl, rfl, rfl, _⟩ := h
  refine List.perm_middle.trans ?_
  exact (List.perm_append_singleton x (A ++ C)).symm
theorem Mv.done {f : Int → Int} {tie : Int → Int → Prop} {zs ys : List Int} {x : Int} {k : Nat} (h : Mv f zs x k ys) (hs : zs.Pairwise (Lt f tie)) (ht : ∀ a ∈ zs, tie a x) (hk : k = 0 ∨ ∃ a, ys[k - 1]? = some a ∧ ¬ f x < f a) : ys.Pairwise (Lt f tie) := by
  obtain ⟨A, C, rfl, rfl, rfl, hC⟩ := h
  refine ins_sorted hs (fun a ha => ht a (by simp [ha])) (fun a ha => ?_) hC
  rcases hk with h0 | ⟨b, hb, hf⟩
  · have : A = [] := List.eq_nil_of_length_eq_zero h0
    subst this
    simp at ha
  · have hne : A ≠ [] := fun e => by subst e; simp at ha
    obtain ⟨A', a', rfl⟩ : ∃ A' a', A = A' ++ [a'] := ⟨_, _, (List.dropLast_concat_getLast hne).symm⟩
    simp at hb ha
    subst hb ha
    exact hf
/-- The order so far. -/
def OrdSo (L : List Gy) (B : Nat) (w wr : World) (v : Value) (p : Nat) : Prop := ∃ zs, OwnI wr B v zs ∧ zs.Perm (txP L p) ∧ zs.Pairwise (LtY L) ∧ Below B w wr
theorem keep_set {B g k : Nat} {w wr : World} {v : Value} (h : Below B w wr) (hg : B ≤ g) : Below B w (wr.setCell ⟨g, k, none⟩ v) := h.trans ⟨rfl, rfl, rfl, by simp [World.setCell], fun q hq => Below.heap_setCell _ _ _ _ (by show q ≠ g; omega)⟩
theorem ownI_new (w : World) (z : Int) : OwnI (w.alloc (.cells #[.int .i64 z] 3)) w.heap.size (.slice (some ⟨w.heap.size, 0, none⟩) 1 1) [z] :=
  ⟨rfl, .inr ⟨w.heap.size, 1, #[.int .i64 z], rfl, Nat.le_refl _, heap_alloc_new w _, Nat.le_refl _, by unfold maxLen; omega, rfl, rfl⟩⟩
set_option maxHeartbeats 4000000 in
theorem refLines_says (L : List Gy) (al : Option Addr) (c : Nat) (w : World) (hl : L.length ≤ 1000) (hok : ∀ g ∈ L, GyOk g) (hG : GyAt w al L) :
    Calls Try.prog 13 #[.slice al L.length c] w fun e w' => LnsRes L w e w' := by
  have HG := hid hG
  have HK := hid (fun (z : Int) (h0 : 0 ≤ z) (h1 : z < L.length) => hok (gyA L z) (List.mem_of_getElem? (gyA_at h0 h1)))
  have mx := mixed
  clear hG hok
  go_enter Try.func13, Try.ntmps13
  go_wp2_with fail
  go_loopw [3, 4] (fun v i wr => ∃ p : Nat, i = .int .i64 p ∧ p ≤ L.length ∧ Hid (OrdSo L w.heap.size w wr v p)) (fun _ i _ => L.length - (intOf i).toNat)
  case atStart => exact ⟨0, rfl, Nat.zero_le _, hid ⟨[], World.ownsRow_nil _ _ _ _, by simp [txP], List.Pairwise.nil, Below.refl _ _⟩⟩
  case round =>
    obtain ⟨p, rfl, hp, HO⟩ := hrel
    obtain ⟨zs, hO, hperm, hsrt, hB⟩ := HO.out
    clear HO
    have hzl : zs.length ≤ 1000 := by rw [hperm.length_eq]; have := txP_len L p; omega
    by_cases hpl : p < L.length
    · have hpl' : (p : Int) < L.length := by omega
      have hgp := gyA_at (z := (p : Int)) (by omega) hpl'
      obtain ⟨b, off, e0, hb, cx⟩ := (HG.out.later hB) p _ hgp
      subst e0
      have c0 := cx 0 _ rfl
      simp only [Nat.add_zero] at c0
      have HSc := hid (txP_succ L p)
      have hBs := hB.size
      by_cases h0 : 0 < (gyA L (p : Int)).s.size
      · have hne : ((gyA L (p : Int)).s.toList == []) = false := by
          rw [ByteArray.toList_eq, beq_eq_false_iff_ne]
          intro e
          have : (gyA L (p : Int)).s.data.toList.length = (gyA L (p : Int)).s.size := by simp
          rw [e] at this
          simp at this
          omega
        have e3 := HSc.out
        rw [if_pos h0] at e3
        have HE := hid e3
        have HO := hid hO
        have HS := hid hsrt
        have HPm := hid hperm
        have HBx := hid (show ∀ a ∈ zs, 0 ≤ a ∧ a < p from fun a ha => txP_mem (hperm.mem_iff.1 ha))
        clear e3 HSc hO hsrt hperm cx
        go_wp2_with (at_builtin; go_loud (refine wpAppI rfl _ _ rfl w.heap.size _ zs rfl (by exact World.ownsRow.alloc HO.out _) _ (p : Int) rfl (by simp) (by omega) (by simp; omega) ?_); intro v' w2 hO2 hg2; have H2 := hid (And.intro hO2 ((hB.alloc hBs _).grown hg2 (by simp; omega) (fun k hk => (World.ownsRow.lt HO.out k hk).1))); obtain ⟨g2, c2, e2⟩ := OwnI.some hO2 (by simp); subst e2; clear hO2 hg2)
        simp only [List.length_append, List.length_singleton] at H2
        go_loopw [5] (fun kk wq => ∃ (k : Nat) (ys : List Int), kk = .int .i64 k ∧ k ≤ zs.length ∧ Hid (Mv (fun z => -(gyA L z).ay) zs (p : Int) k ys ∧ OwnI wq w.heap.size (.slice (some ⟨g2, 0, none⟩) (zs.length + 1) c2) ys ∧ Below w.heap.size w wq)) (fun kk _ => (intOf kk).toNat)
        case atStart => exact ⟨zs.length, zs ++ [(p : Int)], by go_num, Nat.le_refl _, hid ⟨Mv.start _ _ _, H2.out⟩⟩
        case round =>
          obtain ⟨k, ys, rfl, hk, HM⟩ := hrel
          clear H2
          have hBr := HM.out.2.2
          obtain ⟨hx1, hx2, hx3, hx4⟩ := OwnI.cell HM.out.2.1 HM.out.1.at_
          by_cases hk0 : k = 0
          · subst hk0
            have HD := hid (show OrdSo L w.heap.size w wr (.slice (some ⟨g2, 0, none⟩) (zs.length + 1) c2) (p + 1) from ⟨ys, HM.out.2.1, by rw [HE.out]; exact HM.out.1.perm.trans (HPm.out.append_right _), HM.out.1.done HS.out (fun a ha => (HBx.out a ha).2) (.inl rfl), hBr⟩)
            clear hx1 hx2 HM hBr
            go_wp2_with fail
            go_region
            go_wp2_with fail
            go_roundw
            case rel => exact ⟨p + 1, by go_num, by omega, hid (by obtain ⟨q1, q2, q3, q4, q5⟩ := HD.out; exact ⟨q1, q2, q3, q4, q5.drew⟩)⟩
            case measure => simp [intOf]; omega
          · obtain ⟨j, rfl⟩ : ∃ j, k = j + 1 := ⟨k - 1, by omega⟩
            obtain ⟨a, ha, ham, hmv⟩ := HM.out.1.ahead
            obtain ⟨hy1, hy2, _, _⟩ := OwnI.cell HM.out.2.1 ha
            obtain ⟨ha0, ha1⟩ := HBx.out a ham
            have ha2 : a < L.length := by omega
            obtain ⟨ba, oa, ea, hba, ca⟩ := (HG.out.later hBr) a.toNat _ (gyA_at ha0 ha2)
            injection ea with ea
            injection ea with ea1 ea2
            subst ea1 ea2
            obtain ⟨bz, oz, ez, hbz, cz⟩ := (HG.out.later hBr) p _ hgp
            injection ez with ez
            injection ez with ez1 ez2
            subst ez1 ez2
            have ca2 := ca 2 _ rfl
            have cz2 := cz 2 _ rfl
            have rj : IntKind.i64.wrap (j : Int) = (j : Int) := by rw [IntKind.wrap_i64]; omega
            have hj1 : (j : Int) + 1 < zs.length + 1 := by omega
            have hj2 : (j : Int) < zs.length + 1 := by omega
            have hj3 : (0 : Int) < (j : Int) + 1 := by omega
            have hj4 : j < zs.length + 1 := by omega
            have hj5 : j + 1 < zs.length + 1 := by omega
            have HMv := hid hmv
            clear ca cz hmv
            by_cases hlt : (gyA L a).ay < (gyA L (p : Int)).ay
            · have HD := hid (show Mv (fun z => -(gyA L z).ay) zs (p : Int) j ((ys.set (j + 1) a).set j (p : Int)) ∧ OwnI ((wr.setCell ⟨g2, j + 1, none⟩ (.int .i64 a)).setCell ⟨g2, j, none⟩ (.int .i64 (p : Int))) w.heap.size (.slice (some ⟨g2, 0, none⟩) (zs.length + 1) c2) ((ys.set (j + 1) a).set j (p : Int)) ∧ Below w.heap.size w ((wr.setCell ⟨g2, j + 1, none⟩ (.int .i64 a)).setCell ⟨g2, j, none⟩ (.int .i64 (p : Int))) from ⟨HMv.out (by omega), OwnI.set (OwnI.set HM.out.2.1 HM.out.1.len.1.symm _) (by rw [List.length_set]; exact HM.out.1.len.1.symm) _, keep_set (keep_set hBr hx4) hx4⟩)
              clear HM hBr HMv ha
              go_wp2_with fail
              go_region
              go_wp2_with fail
              go_roundw
              case rel => exact ⟨j, (ys.set (j + 1) a).set j (p : Int), by go_num, by omega, hid ⟨HD.out.1, HD.out.2.1, HD.out.2.2.drew⟩⟩
              case measure => simp [intOf]
            · have HD := hid (show OrdSo L w.heap.size w wr (.slice (some ⟨g2, 0, none⟩) (zs.length + 1) c2) (p + 1) from ⟨ys, HM.out.2.1, by rw [HE.out]; exact HM.out.1.perm.trans (HPm.out.append_right _), HM.out.1.done HS.out (fun a ha => (HBx.out a ha).2) (.inr ⟨a, by rw [Nat.add_sub_cancel]; exact ha, by omega⟩), hBr⟩)
              clear HM hBr HMv ha
              go_wp2_with fail
              go_region
              go_wp2_with fail
              go_roundw
              case rel => exact ⟨p + 1, by go_num, by omega, hid (by obtain ⟨q1, q2, q3, q4, q5⟩ := HD.out; exact ⟨q1, q2, q3, q4, q5.drew⟩)⟩
              case measure => simp [intOf]; omega
      · have hne : ((gyA L (p : Int)).s.toList == []) = true := by
          have : (gyA L (p : Int)).s.data.toList.length = (gyA L (p : Int)).s.size := by simp
          rw [ByteArray.toList_eq, List.eq_nil_of_length_eq_zero (by omega : (gyA L (p : Int)).s.data.toList.length = 0)]
          rfl
        have e3 := HSc.out
        rw [if_neg h0] at e3
        have HE := hid (show OrdSo L w.heap.size w wr u3 (p + 1) from ⟨zs, hO, by rw [e3]; exact hperm, hsrt, hB⟩)
        clear e3 HSc hO hsrt hperm cx
        go_wp2_with fail
        go_roundw
        case rel => exact ⟨p + 1, by go_num, by omega, HE⟩
        case measure => simp [intOf]; omega
    · have hpl' : ¬ (p : Int) < L.length := by omega
      have e : p = L.length := by omega
      subst e
      obtain ⟨a, c2, rfl, hI⟩ := OwnI.inAt hO
      have HI := hid hI
      have HZ := hid (show ∀ z ∈ zs, 0 ≤ z ∧ z < L.length from fun z hz => txP_mem (hperm.mem_iff.1 hz))
      have HP := hid (And.intro hperm hsrt)
      have HB4 := hid hB
      have hB4s := hB.size
      clear hO hI hperm hsrt hB
      generalize hW4 : wr = w4 at *
      clear hW4
      go_wp2_with fail
      go_loopw [7, 8, 9] (fun v fi i wr => ∃ (p : Nat) (R : List (List Int)) (vs : List Value) (first : Int), i = .int .i64 p ∧ p ≤ zs.length ∧ fi = .int .i64 first ∧ Hid (LnI L zs p R first ∧ Own2 wr w4.heap.size v R vs) ∧ Below w4.heap.size w4 wr) (fun _ _ i _ => zs.length - (intOf i).toNat)
      case atStart => exact ⟨0, [], [], 0, rfl, Nat.zero_le _, rfl, hid ⟨LnI.nil _ _, Own2.nil _ _⟩, Below.refl _ _⟩
      case round =>
        obtain ⟨p, R, vs, first, rfl, hp, rfl, HO, hB⟩ := hrel
        by_cases hpl : p < zs.length
        · have hpl' : (p : Int) < zs.length := by omega
          have HzP := hid (List.getElem?_eq_getElem hpl)
          have hzp := HZ.out _ (List.getElem_mem hpl)
          obtain ⟨b, off, e1, hb4, cz4⟩ := HI.out p _ (List.getElem?_eq_getElem hpl)
          subst e1
          have cz := (hB.cell (p := ⟨b, off + p, none⟩) hb4).trans cz4
          have hb : b < wr.heap.size := Nat.lt_of_lt_of_le hb4 hB.size
          generalize zs[p] = z at *
          obtain ⟨hz0, hz1⟩ := hzp
          obtain ⟨bg, og, eg, hbg, cg⟩ := (HG.out.later (HB4.out.trans (hB.mono hB4s))) z.toNat _ (gyA_at hz0 hz1)
          subst eg
          have g0 := cg 0 _ rfl
          have g1 := cg 1 _ rfl
          have g2 := cg 2 _ rfl
          have g3 := cg 3 _ rfl
          have g4 := cg 4 _ rfl
          have g5 := cg 5 _ rfl
          have g6 := cg 6 _ rfl
          have g7 := cg 7 _ rfl
          have g8 := cg 8 _ rfl
          have g9 := cg 9 _ rfl
          simp only [Nat.add_zero] at g0
          obtain ⟨a7, c7, e7⟩ := HO.out.2.form
          subst e7
          have hBs := hB.size
          have hRl : R.length ≤ 1000 := by rw [HO.out.1.len]; have := lnsP_len L zs p; omega
          clear cg
          go_upto_region 20 with fail
          go_cut [112] from 92 to 112 (fun bb wx => bb = .bool (newL L (lnsP L zs p) z) ∧ wx = (wr.alloc (.cells #[.string (gyA L z).s, .int .i64 (gyA L z).ax, .int .i64 (gyA L z).ay, .int .i64 (gyA L z).ex, .int .i64 (gyA L z).ey, .int .i64 (gyA L z).sz, .int .i64 (gyA L z).x0, .int .i64 (gyA L z).y0, .int .i64 (gyA L z).x1, .int .i64 (gyA L z).y1] 44)).drew)
          case first =>
            have hA0 := Gy.at_ (w := wr) (gyA L z) 44 rfl
            have HB0 := hid (show Below w.heap.size w (wr.alloc (.cells #[.string (gyA L z).s, .int .i64 (gyA L z).ax, .int .i64 (gyA L z).ay, .int .i64 (gyA L z).ex, .int .i64 (gyA L z).ey, .int .i64 (gyA L z).sz, .int .i64 (gyA L z).x0, .int .i64 (gyA L z).y0, .int .i64 (gyA L z).x1, .int .i64 (gyA L z).y1] 44)) from (HB4.out.trans (hB.mono hB4s)).alloc (by omega) _)
            by_cases h0 : p = 0
            · have er : R.length = 0 := by rw [HO.out.1.len, h0]; rfl
              have hd : ((R.length : Int) == 0) = true := by simp [er]
              have hd2 : (R.length : Int) = 0 := by omega
              have hd3 : decide ((R.length : Int) = 0) = true := decide_eq_true hd2
              have hd4 : (R.length == 0) = true := by simp [er]
              have HE := hid (show newL L (lnsP L zs p) z = true by subst h0; rfl)
              clear er h0
              go_region
              go_wp2_with fail
              go_meet
              exact ⟨by rw [HE.out], rfl⟩
            · have hr0 : R.length ≠ 0 := by rw [HO.out.1.len]; have := lnsP_pos L zs p (by omega); omega
              have hd : ((R.length : Int) == 0) = false := by simp [hr0]
              have hd2 : ¬ (R.length : Int) = 0 := by omega
              have hd3 : decide ((R.length : Int) = 0) = false := decide_eq_false hd2
              have hd4 : (R.length == 0) = false := by simp [hr0]
              have HE := hid (newL_eq (z := z) HO.out.1 (by omega))
              obtain ⟨ys, hf⟩ := HO.out.1.fst (by omega)
              have hfm := (lnsP_sub L zs p hp (List.mem_of_getElem? hf)).subset (List.mem_cons_self ..)
              obtain ⟨hf0, hf1⟩ := HZ.out first hfm
              obtain ⟨bf, of', ef, hbf, cf⟩ := (HG.out.later HB0.out) first.toNat _ (gyA_at hf0 hf1)
              injection ef with ef
              injection ef with ef1 ef2
              subst ef1 ef2
              have kf := HK.out first hf0 hf1
              have kz := HK.out z hz0 hz1
              have f2 := cf 2 _ rfl
              have f5 := cf 5 _ rfl
              have d2 : (wr.alloc (.cells #[.string (gyA L z).s, .int .i64 (gyA L z).ax, .int .i64 (gyA L z).ay, .int .i64 (gyA L z).ex, .int .i64 (gyA L z).ey, .int .i64 (gyA L z).sz, .int .i64 (gyA L z).x0, .int .i64 (gyA L z).y0, .int .i64 (gyA L z).x1, .int .i64 (gyA L z).y1] 44)).cell? ⟨wr.heap.size, 2, none⟩ = some (.int .i64 (gyA L z).ay) := by simp
              obtain ⟨k1, k2⟩ := kf.ay
              obtain ⟨k3, k4⟩ := kz.ay
              have r1 : IntKind.i64.wrap ((gyA L first).ay - (gyA L z).ay) = (gyA L first).ay - (gyA L z).ay := by rw [IntKind.wrap_i64]; omega
              have r2 : IntKind.i64.wrap (2 * ((gyA L first).ay - (gyA L z).ay)) = 2 * ((gyA L first).ay - (gyA L z).ay) := by rw [IntKind.wrap_i64]; omega
              have HN := hid (show (!lvl (gyA L first) (gyA L z)) = decide ((gyA L first).sz < 2 * ((gyA L first).ay - (gyA L z).ay)) by
                unfold lvl
                rw [← decide_not]
                congr 1
                apply propext
                omega)
              clear kf kz k1 k2 k3 k4 cf hf hfm h0 hr0 g0 g1 g2 g3 g4 g5 g6 g7 g8 g9 cz hA0
              generalize wr.alloc (.cells #[.string (gyA L z).s, .int .i64 (gyA L z).ax, .int .i64 (gyA L z).ay, .int .i64 (gyA L z).ex, .int .i64 (gyA L z).ey, .int .i64 (gyA L z).sz, .int .i64 (gyA L z).x0, .int .i64 (gyA L z).y0, .int .i64 (gyA L z).x1, .int .i64 (gyA L z).y1] 44) = W0 at *
              go_region
              go_wp2_with fail
              go_meet
              exact ⟨by rw [HE.out, HN.out], rfl⟩
          case rest =>
            obtain ⟨rfl, hwc⟩ := hcut
            have HB1 := hid (show Below wr.heap.size wr wc from by rw [hwc]; exact ((Below.refl _ _).alloc (Nat.le_refl _) _).drew)
            have hB1s := HB1.out.size
            have hB5 := hB.trans (HB1.out.mono hBs)
            have HO5 := hid (HO.out.2.later HB1.out)
            have cz5 := (HB1.out.cell (p := ⟨b, off + p, none⟩) hb).trans cz
            have hb5 : b < wc.heap.size := Nat.lt_of_lt_of_le hb hB1s
            have HLn := hid HO.out.1
            clear hwc HB1 HO g0 g1 g2 g3 g4 g5 g6 g7 g8 g9 cz hB
            cases hnl : newL L (lnsP L zs p) z with
            | true =>
              have HNx := hid (HLn.out.new HzP.out hnl)
              clear hnl
              go_wp2_with (at_builtin; go_loud (refine wpApp1 Try.underlying36 infoR rfl (by decide) rfl _ _ rfl w4.heap.size _ R.length vs rfl (World.ownsRow.alloc (World.ownsRow.alloc HO5.out.own _) _) _ (.slice (some ⟨wc.heap.size, 0, none⟩) 1 1) rfl rfl (by simp) (by omega) (by simp; omega) ?_); intro v6 w6 q1 q2 q3; have B6 : Below w4.heap.size w4 w6 := ((hB5.alloc hB5.size _).alloc (by have := hB5.size; simp; omega) _).grown q2 (by have := hB5.size; simp; omega) (fun k hk => (World.ownsRow.lt HO5.out.own k hk).1); have cz6 := (B6.cell (p := ⟨b, off + p, none⟩) hb4).trans cz4; have H6 := hid (HO5.out.add (by have := hB5.size; omega) (((Below.refl _ _).alloc (Nat.le_refl _) _).alloc (by simp) _) (World.ownsRow.alloc (ownI_new wc z) _) (by have := q1; rw [List.length_append, HO5.out.len] at this; exact this) q2 q3); clear q1 q2 q3)
              go_roundw
              case rel => exact ⟨p + 1, R ++ [[z]], _, z, by go_num, by omega, rfl, hid ⟨HNx.out, H6.out⟩, B6⟩
              case measure => simp [intOf]; omega
            | false =>
              have hp0 : 0 < p := by
                by_cases e0 : p = 0
                · subst e0; cases hnl
                · omega
              have hr0 : 0 < R.length := by rw [HLn.out.len]; exact lnsP_pos L zs p hp0
              obtain ⟨k, hk⟩ : ∃ k, R.length = k + 1 := ⟨R.length - 1, by omega⟩
              obtain ⟨u, r, hu, hr, hOu⟩ := HO5.out.at (show k < R.length by omega)
              have hrm := HLn.out.mem hp (List.mem_of_getElem? hr)
              obtain ⟨g7, e7, hg7, cu⟩ := HO5.out.head (by omega) hu
              subst e7
              have hrn : 0 < r.length := by
                obtain ⟨ys, hf⟩ := HLn.out.fst hp0
                have q := (HLn.out.row k r _ hr (by rw [← hf, ← HLn.out.len, hk]; rfl)).1.length_eq
                simp at q
                omega
              obtain ⟨gu, cu2, eu⟩ := OwnI.some hOu hrn
              subst eu
              have HRc := hid (fun (j : Nat) (y : Int) (hj : r[j]? = some y) => (OwnI.cell hOu hj).1)
              have hgu := (OwnI.cell hOu (List.getElem?_eq_getElem hrn)).2.2.1
              have HMo := hid (fun (t : List Int) (ht : t.Perm (r ++ [z])) (hs : t.Pairwise (LtX L)) => HLn.out.more hp0 HzP.out hnl (by rw [hk]; exact hr) ht hs)
              have HRx := hid (show ∀ a ∈ r, (0 ≤ a ∧ a < L.length) ∧ LtY L a z from fun a ha => ⟨HZ.out a ((List.take_sublist _ _).subset (hrm.1 a ha)), take_before HP.out.2 HzP.out (hrm.1 a ha)⟩)
              have HRs := hid hrm.2.2
              have hrl : r.length ≤ 1000 := by have := hrm.2.1; omega
              clear hnl hrm hr hOu
              have H0 := hid (show ∀ W, Below wc.heap.size wc W → Below wc.heap.size wc W ∧ W.cell? ⟨g7, k, none⟩ = some (.slice (some ⟨gu, 0, none⟩) r.length cu2) ∧ W.cell? ⟨b, off + p, none⟩ = some (.int .i64 z) from fun W hW => ⟨hW, (hW.cell (p := ⟨g7, k, none⟩) hg7).trans cu, (hW.cell (p := ⟨b, off + p, none⟩) hb5).trans cz5⟩)
              have rk : IntKind.i64.wrap ((R.length : Int) - 1) = (R.length : Int) - 1 := by rw [IntKind.wrap_i64]; omega
              have hk1 : (1 : Int) ≤ R.length := by omega
              have hk2 : (R.length : Int) - 1 < R.length := by omega
              have hk3 : ((R.length : Int) - 1).toNat = k := by omega
              have hk4 : R.length - 1 = k := by omega
              have hk5 : 1 ≤ R.length := by omega
              go_wp2_with fail
              generalize hW5 : wc = w5 at *
              clear hW5
              have hw5 : w4.heap.size ≤ w5.heap.size := hB5.size
              rw [hk]
              have HKk := hid hk
              have rkk : IntKind.i64.wrap (k : Int) = (k : Int) := by rw [IntKind.wrap_i64]; omega
              have hka : (k : Int) < (k : Int) + 1 := by omega
              have hkb : (k : Int) < ((k + 1 : Nat) : Int) := by omega
              have hkc : k < k + 1 := by omega
              clear rk hk1 hk2 hk3 hk4 hk5 hk
              go_cut [12] from 125 to 136 (fun v wx => Hid (OwnI wx w5.heap.size v (r ++ [z]) ∧ Below w5.heap.size w5 wx))
              case first =>
                go_region_held3 (fun (W : World) => Below w5.heap.size w5 W ∧ W.cell? ⟨g7, k, none⟩ = some (.slice (some ⟨gu, 0, none⟩) r.length cu2) ∧ W.cell? ⟨b, off + p, none⟩ = some (.int .i64 z))
                  (first | with_reducible exact H0.out _ (Below.refl _ _) | with_reducible exact H0.out _ (Below.refl _ _).drew | with_reducible exact H0.out _ B52 | with_reducible exact H0.out _ B51 | with_reducible exact H0.out _ (B51.alloc B51.size _) | (refine H0.out _ ?_; go_grown))
                  (first
                    | (have := H51; refine stepApp Try.underlying26 infoI (by rfl) (by decide) (by rfl) (.tmp 130) (.tmp 135) (by rfl) w5.heap.size v51 r.length (r.map (Value.int .i64)) (by rfl) (by first | exact World.ownsRow.alloc H51.out _ | exact H51.out) _ 1 1 [.int .i64 z] (by rfl) (by rfl) (fun j u hj => by match j, hj with | 0, hj => (injection hj with hj; subst hj; rw [Lib.add_plain]; first | (rw [World.cell?_alloc_at _ _ _ _ (by simp)]; rfl) | exact (G51.out.cell (p := ⟨w5.heap.size, 0, none⟩) (by simp)).trans (by simp)) | j + 1, hj => simp at hj) (fun u hu => by rw [List.mem_singleton] at hu; subst hu; rfl) (by omega) (by first | exact B51.size | exact Nat.le_trans B51.size (by simp)) ?_; intro v52 w52 q1 q2 q3; (have B52 : Below w5.heap.size w5 w52 := by first | exact B51.grown q2 B51.size (fun k hk => (World.ownsRow.lt H51.out k hk).1) | exact (B51.alloc B51.size _).grown q2 (Nat.le_trans B51.size (by simp)) (fun k hk => (World.ownsRow.lt H51.out k hk).1)); (have H52 := hid q1); clear q1 q2 q3)
                    | (refine stepApp Try.underlying26 infoI (by rfl) (by decide) (by rfl) (.const (.slice none 0 0)) (.tmp 129) (by rfl) w5.heap.size (.slice none 0 0) 0 [] (by rfl) (World.ownsRow_nil _ _ _ _) ⟨gu, 0, none⟩ r.length cu2 (r.map (Value.int .i64)) (by rfl) (by simp) (fun j u hj => by rw [List.getElem?_map] at hj; obtain ⟨y, hy, rfl⟩ := Option.map_eq_some_iff.1 hj; rw [Lib.add_plain, Nat.zero_add]; refine (Below.cell (w := w5) ?_ (p := ⟨gu, j, none⟩) hgu).trans (HRc.out j y hy); go_grown) (fun u hu => by obtain ⟨y, _, rfl⟩ := List.mem_map.1 hu; rfl) (by omega) (by simp) ?_; intro v51 w51 q1 q2 q3; (have B51 : Below w5.heap.size w5 w51 := Below.grown (by go_grown) q2 (by simp) (fun k hk => by cases hk)); (have H51 : Hid (w51.ownsRow w5.heap.size 3 1 v51 r.length (r.map (Value.int .i64))) := hid (by simpa using q1)); (have G51 := hid (Below.grown (Below.refl _ _) q2 (Nat.le_refl _) (fun k hk => by cases hk))); clear q1 q2 q3))
                all_goals
                  go_wp2_with fail
                  go_meet
                  exact hid ⟨by unfold OwnI; simpa using H52.out, B52⟩
              case rest =>
                have HR6 := hcut
                clear hcut H0
                obtain ⟨gr, cr, er⟩ := OwnI.some HR6.out.1 (by simp)
                subst er
                rw [List.length_append, List.length_singleton] at HR6
                simp only [List.length_append, List.length_singleton]
                rw [show ((k + 1 : Nat) : Int) = (k : Int) + 1 by omega]
                go_wp2_with fail
                go_loopw [13] (fun kk wq => ∃ (t : Nat) (ys : List Int), kk = .int .i64 t ∧ t ≤ r.length ∧ Hid (Mv (fun q => (gyA L q).ax) r z t ys ∧ OwnI wq w5.heap.size (.slice (some ⟨gr, 0, none⟩) (r.length + 1) cr) ys ∧ Below w5.heap.size w5 wq)) (fun kk _ => (intOf kk).toNat)
                case atStart => exact ⟨r.length, r ++ [z], by go_num, Nat.le_refl _, hid ⟨Mv.start _ _ _, HR6.out⟩⟩
                case round =>
                  obtain ⟨t, ys, rfl, ht, HM⟩ := hrel
                  clear HR6
                  have hBr := HM.out.2.2
                  obtain ⟨hx1, hx2, hx3, hx4⟩ := OwnI.cell HM.out.2.1 HM.out.1.at_
                  by_cases ht0 : t = 0
                  · subst ht0
                    have HP4 := hid (HO5.out.put rfl hw5 (k := k) (by have := HKk.out; omega) HM.out.2.2 HM.out.2.1)
                    have HLx := hid (show LnI L zs (p + 1) (R.set k ys) first from by
                      have q := HMo.out ys HM.out.1.perm (HM.out.1.done HRs.out (fun a ha => (HRx.out a ha).2) (.inl rfl))
                      rw [HKk.out, Nat.add_sub_cancel] at q
                      exact q)
                    have HBq := hid (show Below w4.heap.size w4 (wr.setCell ⟨g7, k, none⟩ (.slice (some ⟨gr, 0, none⟩) (r.length + 1) cr)) from keep_set (hB5.trans (HM.out.2.2.mono hw5)) HP4.out.2.1)
                    obtain ⟨q3, ⟨q4, q5⟩, q6⟩ := HP4.out.2.2
                    have HKe := hid (show R.length = k + 1 from HKk.out)
                    clear hx1 hx2 HM hBr
                    go_wp2_with fail
                    go_region
                    go_wp2_with fail
                    go_roundw
                    case rel => exact ⟨p + 1, R.set k ys, vs.set k (.slice (some ⟨gr, 0, none⟩) (r.length + 1) cr), first, by go_num, by omega, rfl, hid ⟨HLx.out, by rw [← HKe.out]; exact HP4.out.1.later (Below.refl _ _).drew⟩, HBq.out.drew⟩
                    case measure => simp [intOf]; omega
                  · obtain ⟨j, rfl⟩ : ∃ j, t = j + 1 := ⟨t - 1, by omega⟩
                    obtain ⟨a, ha, ham, hmv⟩ := HM.out.1.ahead
                    obtain ⟨hy1, hy2, _, _⟩ := OwnI.cell HM.out.2.1 ha
                    obtain ⟨⟨ha0, ha1⟩, _⟩ := HRx.out a ham
                    have HGw := hid (HG.out.later (HB4.out.trans ((hB5.trans (hBr.mono hw5)).mono hB4s)))
                    obtain ⟨ba, oa, ea, hba, ca⟩ := HGw.out a.toNat _ (gyA_at ha0 ha1)
                    injection ea with ea
                    injection ea with ea1 ea2
                    subst ea1 ea2
                    obtain ⟨bz, oz, ez, hbz, czz⟩ := HGw.out z.toNat _ (gyA_at hz0 hz1)
                    injection ez with ez
                    injection ez with ez1 ez2
                    subst ez1 ez2
                    have ca1 := ca 1 _ rfl
                    have cz1 := czz 1 _ rfl
                    have rj : IntKind.i64.wrap (j : Int) = (j : Int) := by rw [IntKind.wrap_i64]; omega
                    have hj1 : (j : Int) + 1 < r.length + 1 := by omega
                    have hj2 : (j : Int) < r.length + 1 := by omega
                    have hj3 : (0 : Int) < (j : Int) + 1 := by omega
                    have hj4 : j < r.length + 1 := by omega
                    have hj5 : j + 1 < r.length + 1 := by omega
                    have HMv := hid hmv
                    clear ca czz hmv HGw
                    by_cases hlt : (gyA L z).ax < (gyA L a).ax
                    · have HD := hid (show Mv (fun q => (gyA L q).ax) r z j ((ys.set (j + 1) a).set j z) ∧ OwnI ((wr.setCell ⟨gr, j + 1, none⟩ (.int .i64 a)).setCell ⟨gr, j, none⟩ (.int .i64 z)) w5.heap.size (.slice (some ⟨gr, 0, none⟩) (r.length + 1) cr) ((ys.set (j + 1) a).set j z) ∧ Below w5.heap.size w5 ((wr.setCell ⟨gr, j + 1, none⟩ (.int .i64 a)).setCell ⟨gr, j, none⟩ (.int .i64 z)) from ⟨HMv.out hlt, OwnI.set (OwnI.set HM.out.2.1 HM.out.1.len.1.symm _) (by rw [List.length_set]; exact HM.out.1.len.1.symm) _, keep_set (keep_set hBr hx4) hx4⟩)
                      clear HM hBr HMv ha
                      go_wp2_with fail
                      go_region
                      go_wp2_with fail
                      go_roundw
                      case rel => exact ⟨j, (ys.set (j + 1) a).set j z, by go_num, by omega, hid ⟨HD.out.1, HD.out.2.1, HD.out.2.2.drew⟩⟩
                      case measure => simp [intOf]
                    · skip
                      have HP4 := hid (HO5.out.put rfl hw5 (k := k) (by have := HKk.out; omega) HM.out.2.2 HM.out.2.1)
                      have HLx := hid (show LnI L zs (p + 1) (R.set k ys) first from by
                        have q := HMo.out ys HM.out.1.perm (HM.out.1.done HRs.out (fun a ha => (HRx.out a ha).2) (.inr ⟨a, by rw [Nat.add_sub_cancel]; exact ha, hlt⟩))
                        rw [HKk.out, Nat.add_sub_cancel] at q
                        exact q)
                      have HBq := hid (show Below w4.heap.size w4 (wr.setCell ⟨g7, k, none⟩ (.slice (some ⟨gr, 0, none⟩) (r.length + 1) cr)) from keep_set (hB5.trans (HM.out.2.2.mono hw5)) HP4.out.2.1)
                      obtain ⟨q3, ⟨q4, q5⟩, q6⟩ := HP4.out.2.2
                      have HKe := hid (show R.length = k + 1 from HKk.out)
                      clear HM hBr HMv ha
                      go_wp2_with fail
                      go_region
                      go_wp2_with fail
                      go_roundw
                      case rel => exact ⟨p + 1, R.set k ys, vs.set k (.slice (some ⟨gr, 0, none⟩) (r.length + 1) cr), first, by go_num, by omega, rfl, hid ⟨HLx.out, by rw [← HKe.out]; exact HP4.out.1.later (Below.refl _ _).drew⟩, HBq.out.drew⟩
                      case measure => simp [intOf]; omega
        · have hpl' : ¬ (p : Int) < zs.length := by omega
          have e : p = zs.length := by omega
          subst e
          go_wp2_with fail
          go_ret
          exact ⟨_, R, vs, w4.heap.size, rfl, HO.out.1.done HP.out.1 HP.out.2, hB4s, HO.out.2, HB4.out.trans (hB.mono hB4s)⟩
end Go.Proofs.Ytogdfjkbkhnobaa
