/-
  Lines of a page (layout.lines).
-/
import Derived.Test.YtogdfjkbkhnobaaSm
namespace Go.Proofs.Ytogdfjkbkhnobaa
open Go.Shelf Go.RowKit Go.Lib Go.Sort
set_option maxRecDepth 1000000

theorem pushR_flat {R : List (List Int)} (z : Int) (h : 0 < R.length) : (pushR R z).flatten = R.flatten ++ [z] := by
  obtain ⟨R', r, rfl⟩ : ∃ R' r, R = R' ++ [r] := ⟨R.dropLast, R.getLast (by intro e; simp [e] at h), (List.dropLast_concat_getLast _).symm⟩
  unfold pushR
  have e : (R' ++ [r]).length - 1 = R'.length := by simp
  rw [e, List.getElem?_append_right (Nat.le_refl _), Nat.sub_self, List.set_append_right _ _ (Nat.le_refl _), Nat.sub_self]
  simp
theorem lnsP_flat (L : List Gy) (zs : List Int) : ∀ p, p ≤ zs.length → (lnsP L zs p).flatten = zs.take p
  | 0, _ => by simp [lnsP]
  | p + 1, h => by
    have ih := lnsP_flat L zs p (by omega)
    have h0 := lnsP_pos L zs (p + 1) (by omega)
    rw [lnsP, pushR_len] at h0
    rw [lnsP, pushR_flat _ h0, List.take_add_one, List.getElem?_eq_getElem (by omega : p < zs.length)]
    split
    · rw [List.flatten_append, ih]; simp
    · rw [ih]; rfl
theorem lnsP_sub (L : List Gy) (zs : List Int) (p : Nat) (h : p ≤ zs.length) {r : List Int} (hr : r ∈ lnsP L zs p) : r.Sublist zs := by
  have e := lnsP_flat L zs p h
  exact ((List.sublist_flatten_of_mem hr).trans (by rw [e]; exact List.Sublist.refl _)).trans (List.take_sublist _ _)
theorem Own2.form {w : World} {B : Nat} {v : Value} {R : List (List Int)} {vs : List Value} (h : Own2 w B v R vs) : ∃ a c, v = .slice a R.length c := by
  obtain ⟨_, ⟨e, h0⟩ | ⟨g, cap, cur, e, _⟩⟩ := h.own
  · exact ⟨none, 0, by rw [e, h0]⟩
  · exact ⟨_, cap, e⟩
/-- A row is put in order, where it lies. -/
theorem Own2.turn {w w' : World} {B k : Nat} {v u : Value} {R : List (List Int)} {vs : List Value} {ts : List Int} (h : Own2 w B v R vs) (hk : k < R.length) (hu : vs[k]? = some u) (hO : OwnI w' B u ts) (hg : w.grownBy w' u.ownBlock) : Own2 w' B v (R.set k ts) vs := by
  refine ⟨by rw [List.length_set]; exact h.own.kept hg (by
    rcases h.apart k u hu with q | q
    · rw [q]; cases v.ownBlock <;> simp
    · exact .inr (fun e => q e.symm)), fun j x ys hx hy => ?_, h.apart, h.two⟩
  by_cases hj : j = k
  · subst hj
    rw [List.getElem?_set_self hk] at hy
    injection hy with hy
    subst hy
    rw [hu] at hx
    injection hx with hx
    subst hx
    exact hO
  · rw [List.getElem?_set_ne (fun e => hj e.symm)] at hy
    exact World.ownsRow.kept (h.row j x ys hx hy) hg (h.two j k x u hj hx hu)
/-- The k-th header's cell. -/
theorem Own2.head {w : World} {B k n cap : Nat} {a : Option Addr} {R : List (List Int)} {vs : List Value} {u : Value} (h : Own2 w B (.slice a n cap) R vs) (hk : k < R.length) (hu : vs[k]? = some u) : ∃ g, a = some ⟨g, 0, none⟩ ∧ g < w.heap.size ∧ w.cell? ⟨g, k, none⟩ = some u := by
  obtain ⟨_, ⟨e, h0⟩ | ⟨g, cap, cur, e, h2, h3, h4, h5, h6, h7⟩⟩ := h.own
  · omega
  injection e with e1 e2 e3
  have hA : At w g 26 cur := h3
  refine ⟨g, e1, hA.lt, ?_⟩
  rw [hA.cell]
  rw [← h7, Nat.mul_one, List.getElem?_take_of_lt (by omega)] at hu
  simpa using hu
/-- The lines of a page, each in order. -/
def Lns (L : List Gy) (R : List (List Int)) : Prop := ∃ zs, zs.Perm (txP L L.length) ∧ zs.Pairwise (LtY L) ∧ R.length = (lnsP L zs zs.length).length ∧ ∀ (k : Nat) (r r0 : List Int), R[k]? = some r → (lnsP L zs zs.length)[k]? = some r0 → r.Perm r0 ∧ r.Pairwise (LtX L)
theorem Lns.unique {L : List Gy} {R R' : List (List Int)} (h : Lns L R) (h' : Lns L R') : R = R' := by
  obtain ⟨zs, h1, h2, h3, h4⟩ := h
  obtain ⟨zs', k1, k2, k3, k4⟩ := h'
  have e : zs = zs' := sorted_unique (tieY L).asym (h1.trans k1.symm) h2 k2
  subst e
  apply List.ext_getElem (by omega)
  intro k hk hk'
  have q := h4 k _ _ (List.getElem?_eq_getElem hk) (List.getElem?_eq_getElem (by omega))
  have q' := k4 k _ _ (List.getElem?_eq_getElem hk') (List.getElem?_eq_getElem (by omega))
  exact sorted_unique (tieX L).asym (q.1.trans q'.1.symm) q.2 q'.2
/-- The first p rows are in order. -/
def Upw (L : List Gy) (R0 R : List (List Int)) (p : Nat) : Prop := R.length = R0.length ∧ (∀ (k : Nat) (r r0 : List Int), k < p → R[k]? = some r → R0[k]? = some r0 → r.Perm r0 ∧ r.Pairwise (LtX L)) ∧ ∀ k : Nat, p ≤ k → R[k]? = R0[k]?
theorem Upw.next {L : List Gy} {R0 R : List (List Int)} {p : Nat} {ts r0 : List Int} (h : Upw L R0 R p) (hr : R0[p]? = some r0) (h1 : ts.Perm r0) (h2 : ts.Pairwise (LtX L)) : Upw L R0 (R.set p ts) (p + 1) := by
  obtain ⟨a, b, c⟩ := h
  have hp := (List.getElem?_eq_some_iff.1 hr).1
  refine ⟨by simpa using a, fun k r r1 hk e1 e2 => ?_, fun k hk => ?_⟩
  · by_cases e : k = p
    · subst e
      rw [List.getElem?_set_self (by omega)] at e1
      injection e1 with e1
      rw [hr] at e2
      injection e2 with e2
      subst e1 e2
      exact ⟨h1, h2⟩
    · rw [List.getElem?_set_ne (fun q => e q.symm)] at e1
      exact b k r r1 (by omega) e1 e2
  · rw [List.getElem?_set_ne (by omega)]
    exact c k (by omega)
def LnsRes (L : List Gy) (w : World) (e : Ending) (w' : World) : Prop := ∃ v R vs B, e = .returned v ∧ Lns L R ∧ w.heap.size ≤ B ∧ Own2 w' B v R vs ∧ Below w.heap.size w w'
set_option maxHeartbeats 8000000 in
theorem lines_says (L : List Gy) (al : Option Addr) (c : Nat) (w : World) (hl : L.length ≤ 1000) (hok : ∀ g ∈ L, GyOk g) (hG : GyAt w al L) :
    Calls Try.prog 19 #[.slice al L.length c] w fun e w' => LnsRes L w e w' := by
  have HG := hid hG
  have HK := hid (fun (z : Int) (h0 : 0 ≤ z) (h1 : z < L.length) => hok (gyA L z) (List.mem_of_getElem? (gyA_at h0 h1)))
  have mx := mixed
  clear hG hok
  go_enter Try.func19, Try.ntmps19
  go_wp2_with (go_at_call 21; fail)
  go_at_call 21
  refine (above_says L al c _ hl (HG.out.later ((Below.refl _ _).alloc (Nat.le_refl _) _))).mono ?_
  rintro e w1 ⟨v0, zs, rfl, hp, hs, hO, hb1⟩
  have hA1 := (At.new w #[.slice al L.length c] 22 rfl).later hb1
  have hB1 : Below w.heap.size w w1 := ((Below.refl _ _).alloc (Nat.le_refl _) _).trans (hb1.mono (by simp))
  obtain ⟨a, c2, rfl, hI⟩ := OwnI.inAt hO
  have hw1 := hA1.lt
  have HI := hid hI
  have HA := hid hA1
  have HB1 := hid hB1
  have HZ := hid (show ∀ z ∈ zs, 0 ≤ z ∧ z < L.length from fun z hz => txP_mem (hp.mem_iff.1 hz))
  have hzl : zs.length ≤ 1000 := by rw [hp.length_eq]; have := txP_len L L.length; omega
  have HP := hid (And.intro hp hs)
  clear hI hA1 hB1 hp hs hO hb1
  go_wp2_with fail
  go_loopw [3, 12] (fun v i wr => ∃ (p : Nat) (vs : List Value), i = .int .i64 p ∧ p ≤ zs.length ∧ Hid (Own2 wr w1.heap.size v (lnsP L zs p) vs) ∧ Below w1.heap.size w1 wr) (fun _ i _ => zs.length - (intOf i).toNat)
  case atStart => exact ⟨0, [], rfl, Nat.zero_le _, hid (Own2.nil _ _), Below.refl _ _⟩
  case round =>
    obtain ⟨p, vs, rfl, hp, HO, hB⟩ := hrel
    by_cases hpl : p < zs.length
    · have hpl' : (p : Int) < zs.length := by omega
      obtain ⟨b, off, rfl, hb, cz⟩ := (HI.out.later hB) p _ (List.getElem?_eq_getElem hpl)
      have hzp := HZ.out _ (List.getElem_mem hpl)
      have HW := hid (show lnsP L zs (p + 1) = pushR (if newL L (lnsP L zs p) zs[p] then lnsP L zs p ++ [[]] else lnsP L zs p) zs[p] by rw [lnsP, List.getElem?_eq_getElem hpl]; rfl)
      have hwl := lnsP_len L zs p
      have HJ := hid (show 0 < p → ∃ y ys, (lnsP L zs p)[(lnsP L zs p).length - 1]? = some (y :: ys) ∧ 0 < (lnsP L zs p).length ∧ y ∈ zs from fun h0 => by
        obtain ⟨y, ys, e⟩ := lnsP_last L zs p h0
        exact ⟨y, ys, e, lnsP_pos L zs p h0, (lnsP_sub L zs p hp (List.mem_of_getElem? e)).subset (List.mem_cons_self ..)⟩)
      have HR0 := hid (show p = 0 → (lnsP L zs p).length = 0 from fun h0 => by subst h0; rfl)
      have HQ := hid (show (∀ r ∈ lnsP L zs p, r.length ≤ p) ∧ 0 < (lnsP L zs (p + 1)).length ∧ (lnsP L zs (p + 1)).length ≤ p + 1 from ⟨lnsP_row L zs p, lnsP_pos L zs (p + 1) (by omega), lnsP_len L zs (p + 1)⟩)
      generalize hzz : zs[p] = z at *
      generalize lnsP L zs p = R at *
      obtain ⟨a3, c3, e3⟩ := HO.out.form
      subst e3
      go_upto_region 6 with fail
      go_cut [37] from 19 to 37 (fun t wx => t = .bool (newL L R z) ∧ Hid (Own2 wx w1.heap.size (.slice a3 R.length c3) R vs) ∧ Below w1.heap.size w1 wx)
      case first =>
        by_cases h0 : p = 0
        · have er := HR0.out h0
          have hd : (R.length : Int) - 1 < 0 := by omega
          have hd2 : decide ((R.length : Int) - 1 < 0) = true := decide_eq_true hd
          have HE := hid (show newL L R z = true by unfold newL; rw [er]; rfl)
          clear er h0
          go_wp2_with fail
          go_region
          go_wp2_with fail
          go_meet
          exact ⟨by rw [HE.out], hid (HO.out.later (by go_grown)), hB.drew⟩
        · obtain ⟨y, ys, hy, hR0, hym⟩ := HJ.out (by omega)
          obtain ⟨k, hk⟩ : ∃ k, R.length = k + 1 := ⟨R.length - 1, by omega⟩
          rw [hk, Nat.add_sub_cancel] at hy
          obtain ⟨g, cap, gu, cu, e1, hg1, hg2, hg3, hg4⟩ := HO.out.last hk hy
          rw [hk] at e1
          injection e1 with e1 _ e1'
          subst e1 e1'
          have hd : ¬ (R.length : Int) - 1 < 0 := by omega
          have hd2 : decide ((R.length : Int) - 1 < 0) = false := decide_eq_false hd
          have hR1 : (R.length : Int) - 1 < R.length := by omega
          have hR2 : 0 ≤ (R.length : Int) - 1 := by omega
          have hR3 : ((R.length : Int) - 1).toNat = k := by omega
          have hR4 : (1 : Int) ≤ R.length := by omega
          have hR5 : R.length - 1 = k := by omega
          have hR6 : 1 ≤ R.length := by omega
          have hyz := HZ.out y hym
          have HE := hid (show newL L R z = !lvl (gyA L y) (gyA L z) by unfold newL; rw [hk, Nat.add_sub_cancel, hy]; simp)
          obtain ⟨bx, ox, ex, gx⟩ := gy_grown (HG.out.later (HB1.out.trans (hB.mono (by omega)))) hyz.1 hyz.2
          obtain ⟨by', oy, ey, gy⟩ := gy_grown (HG.out.later (HB1.out.trans (hB.mono (by omega)))) hzp.1 hzp.2
          subst ex
          injection ey with ey
          injection ey with ey1 ey2
          subst ey1 ey2
          have gx0 := gx 0 _ rfl
          have gx1 := gx 1 _ rfl
          have gx2 := gx 2 _ rfl
          have gx3 := gx 3 _ rfl
          have gx4 := gx 4 _ rfl
          have gx5 := gx 5 _ rfl
          have gx6 := gx 6 _ rfl
          have gx7 := gx 7 _ rfl
          have gx8 := gx 8 _ rfl
          have gx9 := gx 9 _ rfl
          have gy0 := gy 0 _ rfl
          have gy1 := gy 1 _ rfl
          have gy2 := gy 2 _ rfl
          have gy3 := gy 3 _ rfl
          have gy4 := gy 4 _ rfl
          have gy5 := gy 5 _ rfl
          have gy6 := gy 6 _ rfl
          have gy7 := gy 7 _ rfl
          have gy8 := gy 8 _ rfl
          have gy9 := gy 9 _ rfl
          simp only [Nat.add_zero] at gx0 gy0
          have kx := HK.out y hyz.1 hyz.2
          have ky := HK.out z hzp.1 hzp.2
          have gb := cell_grown (w := wr) (a := ⟨w.heap.size, 0, none⟩) (HA.out.later hB).lt (by have := (HA.out.later hB).cell 0; simpa using this)
          have gh := cell_grown (w := wr) (a := ⟨g, k, none⟩) hg3 hg1
          have gf := cell_grown (w := wr) (a := ⟨gu, 0, none⟩) hg4 hg2
          obtain ⟨hy0, hy1⟩ := hyz
          obtain ⟨hz0, hz1⟩ := hzp
          have hc : ∀ (n : Nat) (os : Array Obj), Calls Try.prog 22 #[(gyA L y).v, (gyA L z).v] (grow (wr.drewN n) os) fun e w' => e = .returned (.bool (lvl (gyA L y) (gyA L z))) ∧ ∃ q os', w' = grow ((grow (wr.drewN n) os).drewN q) os' := fun n os => level_says _ _ _ kx ky
          clear gx gy kx ky h0 hk hy
          generalize gyA L y = X at *
          generalize gyA L z = Y at *
          go_wp2_with fail
          go_quiet_grown (first | (go_at_call 22; refine Calls.grown_of (hc _ _)))
          go_wp2_with fail
          go_meet
          exact ⟨by rw [HE.out], hid (HO.out.later (below_grow _ _ _)), hB.trans ((below_grow _ _ _).mono hB.size)⟩
      case rest =>
        obtain ⟨rfl, HO2, hB2⟩ := hcut
        clear HO cz hB HJ HR0
        obtain ⟨R1, hR1⟩ : ∃ R1, R1 = if newL L R z then R ++ [[]] else R := ⟨_, rfl⟩
        have HY := hid (show ∀ r ∈ R1, r.length ≤ 1000 from fun r hr => by
          rw [hR1] at hr
          split at hr
          · rcases List.mem_append.1 hr with q | q
            · have := HQ.out.1 r q; omega
            · rw [List.mem_singleton] at q; subst q; simp
          · have := HQ.out.1 r hr; omega)
        have HR := hid (show 0 < R1.length ∧ R1.length ≤ 1001 ∧ lnsP L zs (p + 1) = pushR R1 z from by
          have e := HW.out
          rw [← hR1] at e
          have q1 := HQ.out.2.1
          have q2 := HQ.out.2.2
          rw [e, pushR_len] at q1 q2
          exact ⟨q1, by omega, e⟩)
        have HR1 := hid hR1
        clear hR1 HW
        generalize newL L R z = nb at *
        go_upto_if 37 with fail
        go_cut [3, 6] from 38 to 42 (fun v l wx => ∃ vs', l = .int .i64 ((R1.length : Int) - 1) ∧ Hid (Own2 wx w1.heap.size v R1 vs') ∧ Below w1.heap.size w1 wx)
        case first =>
          cases nb with
          | true =>
            have e := HR1.out
            rw [if_pos rfl] at e
            have HL := hid (show (R1.length : Int) - 1 = (R.length : Int) by rw [e, List.length_append]; simp)
            go_wp2_with (at_builtin; go_loud (refine wpAppN rfl _ _ rfl w1.heap.size _ _ vs rfl (HO2.out.later ((Below.refl _ _).alloc (Nat.le_refl _) _)) _ rfl (by simp) (by omega) (by have := hB2.size; simp; omega) ?_); intro v' w2 hO2 hb2; have H2 := hid (And.intro hO2 hb2); clear hO2 hb2)
            go_meet
            exact ⟨_, by rw [HL.out], hid (by rw [e]; exact H2.out.1), (hB2.alloc hB2.size _).trans H2.out.2⟩
          | false =>
            have e := HR1.out
            rw [if_neg (by simp)] at e
            have HL := hid (show (R1.length : Int) - 1 = (R.length : Int) - 1 by rw [e])
            go_wp2_with fail
            go_meet
            exact ⟨vs, by rw [HL.out], by rw [e]; exact HO2, hB2⟩
        case rest =>
          obtain ⟨vs', rfl, HO3, hB3⟩ := hcut
          obtain ⟨q1, q2, q3⟩ := HR.out
          obtain ⟨k, hk⟩ : ∃ k, R1.length = k + 1 := ⟨R1.length - 1, by omega⟩
          have ek0 : ((R1.length : Int) - 1) = (k : Int) := by omega
          rw [ek0]
          clear ek0
          obtain ⟨u, ys, hu, hy, hOu⟩ := HO3.out.at (show k < R1.length by omega)
          obtain ⟨g, cap, cur, ev, hg1, hg2, hg3, hg4, hg5, hg6⟩ : ∃ g cap cur, u3 = .slice (some ⟨g, 0, none⟩) (k + 1) cap ∧ w1.heap.size ≤ g ∧ At wc g 26 cur ∧ k + 1 ≤ cap ∧ cap ≤ maxLen ∧ cur.size = cap * 1 ∧ cur.toList.take ((k + 1) * 1) = vs' := by
            obtain ⟨_, ⟨_, h0⟩ | ⟨g, cap, cur, e, r⟩⟩ := HO3.out.own
            · omega
            · rw [hk] at e r
              exact ⟨g, cap, cur, e, r⟩
          subst ev
          have cu : wc.cell? ⟨g, k, none⟩ = some u := by
            rw [hg2.cell]
            rw [← hg6, Nat.mul_one, List.getElem?_take_of_lt (by omega)] at hu
            simpa using hu
          obtain ⟨au, cu2, eu⟩ : ∃ a c, u = .slice a ys.length c := by
            obtain ⟨_, ⟨e, h0⟩ | ⟨g, cap, cur, e, _⟩⟩ := hOu
            · exact ⟨none, 0, by rw [e, h0]⟩
            · exact ⟨_, cap, e⟩
          subst eu
          have hyl : ys.length ≤ 1000 := HY.out ys (List.mem_of_getElem? hy)
          have zg := hg2.lt
          have hk3 : (k : Int) < ((k + 1 : Nat) : Int) := by omega
          have hk4 : (k : Int) < (k : Int) + 1 := by omega
          have HU := hid hOu
          have HA2 := hid hg2
          have HV := hid (And.intro hu (And.intro hy (And.intro hk q3)))
          clear hOu hg2 hg6 hu hy hk q3 q1 q2
          go_wp2_with (at_builtin; go_loud (refine wpAppJ rfl _ _ rfl w1.heap.size (.slice au ys.length cu2) ys rfl (by exact World.ownsRow.alloc HU.out _) _ z rfl (by simp) (by omega) (by have := hB3.size; simp; omega) ?_); intro u' w3 hO4 hg4' hb4; obtain ⟨a4, c4, e4⟩ := ownI_form hO4; subst e4; have H4 := hid (And.intro hO4 (And.intro hg4' hb4)); obtain ⟨s1, s2⟩ := (HO3.out.later ((Below.refl _ _).alloc (Nat.le_refl _) _)).store HV.out.1 (Nat.lt_succ_self k) hg4'; clear hO4 hg4' hb4)
          go_roundw
          case rel =>
            have P := ((HO3.out.later ((Below.refl _ _).alloc (Nat.le_refl _) _)).push HV.out.2.2.1.symm HV.out.1 (Nat.lt_succ_self k) H4.out.1 H4.out.2.1 H4.out.2.2)
            refine ⟨p + 1, vs'.set k (.slice a4 (ys.length + 1) c4), by go_num, by omega, hid ?_, ?_⟩
            · have e : lnsP L zs (p + 1) = R1.set k (ys ++ [z]) := by
                rw [HV.out.2.2.2]
                unfold pushR
                rw [HV.out.2.2.1, Nat.add_sub_cancel, HV.out.2.1]
                rfl
              rw [e]
              exact P.1
            · have b1 := (hB3.alloc hB3.size _).grown H4.out.2.1 (by have := hB3.size; simp; omega) (fun q hq => (World.ownsRow.lt HU.out q hq).1)
              refine b1.trans ⟨rfl, rfl, rfl, by simp [World.setCell], fun q hq => Below.heap_setCell _ _ _ _ (by have := P.2.2; show q ≠ g; omega)⟩
          case measure => simp [intOf]; omega
    · have hpl' : ¬ (p : Int) < zs.length := by omega
      have e : p = zs.length := by omega
      subst e
      have hrl := lnsP_len L zs zs.length
      have HF := hid (show ∀ r ∈ lnsP L zs zs.length, (∀ z ∈ r, 0 ≤ z ∧ z < L.length) ∧ r.Pairwise (LtY L) ∧ r.length ≤ 1000 from fun r hr => by
        have hsub := lnsP_sub L zs _ (Nat.le_refl _) hr
        exact ⟨fun z hz => HZ.out z (hsub.subset hz), HP.out.2.sublist hsub, Nat.le_trans hsub.length_le hzl⟩)
      have HE := hid (show ∀ R, Upw L (lnsP L zs zs.length) R (lnsP L zs zs.length).length → Lns L R from fun R h => ⟨zs, HP.out.1, HP.out.2, h.1, fun k r r0 h1 h2 => h.2.1 k r r0 (List.getElem?_eq_some_iff.1 h2).1 h1 h2⟩)
      clear HI HP HZ hpl' hp
      generalize lnsP L zs zs.length = R0 at *
      obtain ⟨a3, c3, e3⟩ := HO.out.form
      subst e3
      go_wp2_with fail
      go_loopw [56] (fun i wq => ∃ (q : Nat) (R : List (List Int)), i = .int .i64 q ∧ q ≤ R0.length ∧ Hid (Own2 wq w1.heap.size (.slice a3 R0.length c3) R vs) ∧ Upw L R0 R q ∧ Below w1.heap.size w1 wq) (fun i _ => R0.length - (intOf i).toNat)
      case atStart => exact ⟨0, R0, rfl, Nat.zero_le _, HO, ⟨rfl, fun k _ _ h => absurd h (by omega), fun _ _ => rfl⟩, hB⟩
      case round =>
        obtain ⟨q, R, rfl, hq, HO4, hU, hB4⟩ := hrel
        have HU := hid hU
        have eR := hU.1
        clear hU
        by_cases hql : q < R0.length
        · have hql' : (q : Int) < R0.length := by omega
          obtain ⟨u, ys, hu, hy, hOu⟩ := HO4.out.at (show q < R.length by omega)
          obtain ⟨g, rfl, hg, cu⟩ := HO4.out.head (by omega) hu
          have hy0 : R0[q]? = some ys := by rw [← hy]; exact (HU.out.2.2 q (Nat.le_refl _)).symm
          have hf := HF.out ys (List.mem_of_getElem? hy0)
          have HA4 := hid (HA.out.later hB4)
          have HC := hid (show ∀ blk, u.ownBlock = some blk → CmpIn 24 #[.pointer (some ⟨w.heap.size, 0, none⟩)] (fun x y => compareInt (gyA L x).ax (gyA L y).ax) L.length wr blk from fun blk hk => by
            have hk1 := (World.ownsRow.lt hOu blk hk).1
            by_cases h0 : L.length = 0
            · intro W _ _ x y x1 x2 _ _
              rw [h0] at x2
              omega
            · refine cmp_left (c := c) (by have := HA4.out.cell 0; simpa using this) (by omega) HA4.out.lt (HG.out.later (HB1.out.trans (hB4.mono (by omega)))) (fun b o e => ?_)
              obtain ⟨b2, o2, e2, hb2, _⟩ := HG.out 0 L[0] (List.getElem?_eq_getElem (by omega))
              rw [e] at e2
              injection e2 with e2
              injection e2 with e2
              omega)
          have HX := hid (sort_own (key := fun z => (gyA L z).ax) (N := L.length) (tieY L) eg_left (fun x y => by rw [cmp_neg]) ys u wr hOu HC.out hf.1 hf.2.1 (by omega))
          have HD := hid (And.intro hu (And.intro hOu hy0))
          clear HC hf hu hy hOu hy0 hB
          go_wp2_with (go_at_call 23; refine HX.out.mono ?_; rintro e w3 ⟨rfl, ts, h1, h2, h3, h4⟩; have H3 := hid (And.intro h1 (And.intro h2 (And.intro h3 h4))); clear h1 h2 h3 h4)
          go_roundw
          case rel => exact ⟨q + 1, R.set q ts, by go_num, by omega, hid (HO4.out.turn (by omega) HD.out.1 H3.out.2.2.1 H3.out.2.2.2), HU.out.next HD.out.2.2 H3.out.1 H3.out.2.1, hB4.grown H3.out.2.2.2 hB4.size (fun k hk => (World.ownsRow.lt HD.out.2.1 k hk).1)⟩
          case measure => simp [intOf]; omega
        · have hql' : ¬ (q : Int) < R0.length := by omega
          have e : q = R0.length := by omega
          subst e
          go_wp2_with fail
          go_ret
          exact ⟨_, R, vs, w1.heap.size, rfl, HE.out R HU.out, by omega, HO4.out, HB1.out.trans (hB4.mono (by omega))⟩
end Go.Proofs.Ytogdfjkbkhnobaa
