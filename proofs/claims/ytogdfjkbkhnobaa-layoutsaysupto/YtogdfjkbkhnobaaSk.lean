/-
  Words of a line (layout.words).
-/
import Derived.Test.YtogdfjkbkhnobaaSj
import Derived.Deep.Cut
import Derived.Deep.CutRange
namespace Go.Proofs.Ytogdfjkbkhnobaa
open Go.Shelf Go.RowKit Go.Lib Go.Sort
set_option maxRecDepth 1000000

/-- Numbers in memory. -/
def InAt (w : World) (a : Option Addr) (zs : List Int) : Prop := ∀ (i : Nat) z, zs[i]? = some z → ∃ b off, a = some ⟨b, off, none⟩ ∧ b < w.heap.size ∧ w.cell? ⟨b, off + i, none⟩ = some (.int .i64 z)
theorem InAt.later {w w' : World} {a : Option Addr} {zs : List Int} (h : InAt w a zs) (hB : Below w.heap.size w w') : InAt w' a zs := fun i z hz => by
  obtain ⟨b, off, h1, h2, h3⟩ := h i z hz
  exact ⟨b, off, h1, Nat.lt_of_lt_of_le h2 hB.size, (hB.cell (p := ⟨b, off + i, none⟩) h2).trans h3⟩
/-- The last row has one number more. -/
def pushR (R : List (List Int)) (z : Int) : List (List Int) := R.set (R.length - 1) ((R[R.length - 1]?.getD []) ++ [z])
/-- Where a new word begins. -/
def newW (L : List Gy) (zs : List Int) (p : Nat) : Bool := decide (p = 0) || rom (gyA L (zs[p - 1]?.getD 0)) (gyA L (zs[p]?.getD 0))
/-- The words of the first p. -/
def wdsP (L : List Gy) (zs : List Int) : Nat → List (List Int)
  | 0 => []
  | p + 1 => pushR (if newW L zs p then wdsP L zs p ++ [[]] else wdsP L zs p) (zs[p]?.getD 0)
theorem pushR_len (R : List (List Int)) (z : Int) : (pushR R z).length = R.length := by simp [pushR]
theorem wdsP_pos (L : List Gy) (zs : List Int) : ∀ p, 0 < p → 0 < (wdsP L zs p).length
  | 0, h => by omega
  | 1, _ => by simp [wdsP, newW, pushR_len]
  | p + 2, _ => by
    have := wdsP_pos L zs (p + 1) (by omega)
    rw [wdsP, pushR_len]
    split
    · rw [List.length_append]; omega
    · exact this
theorem wdsP_len (L : List Gy) (zs : List Int) : ∀ p, (wdsP L zs p).length ≤ p
  | 0 => by simp [wdsP]
  | p + 1 => by
    have := wdsP_len L zs p
    rw [wdsP, pushR_len]
    split
    · rw [List.length_append]; simpa using this
    · omega
theorem pushR_row {R : List (List Int)} {z : Int} {n : Nat} (h : ∀ r ∈ R, r.length ≤ n) : ∀ r ∈ pushR R z, r.length ≤ n + 1 := fun r hr => by
  unfold pushR at hr
  rcases List.mem_or_eq_of_mem_set hr with q | q
  · have := h r q; omega
  · subst q
    rw [List.length_append]
    cases e : R[R.length - 1]? with
    | none => simp
    | some y => have := h y (List.mem_of_getElem? e); simpa using this
theorem wdsP_row (L : List Gy) (zs : List Int) : ∀ p, ∀ r ∈ wdsP L zs p, r.length ≤ p
  | 0, r, h => by simp [wdsP] at h
  | p + 1, r, h => by
    rw [wdsP] at h
    refine pushR_row (n := p) (fun r hr => ?_) r h
    split at hr
    · rcases List.mem_append.1 hr with q | q
      · exact wdsP_row L zs p r q
      · rw [List.mem_singleton] at q; subst q; simp
    · exact wdsP_row L zs p r hr
theorem infoR : (Try.prog.info? 26).map (fun i => (i.zero, i.size, i.bytes)) = some (some (.slice none 0 0), 1, 24) := by kernel_rfl
section
variable {W : World} {ops : Array Oper} {rest : List Oper} {o : Oper} {act : Act} {Q : Exit → Act → World → Prop}
theorem wpAppJ (hgd : o.guard = none) (s x : Operand) (ho : o.op = .call { callee := .builtin .append, args := #[s, x], argTypes := #[26, 26] })
    (B : Nat) (v : Value) (zs : List Int) (hs : act.eval s = v) (hown : OwnI W B v zs) (g : Nat) (z : Int) (hx : act.eval x = .slice (some ⟨g, 0, none⟩) 1 1) (hc : W.cell? ⟨g, 0, none⟩ = some (.int .i64 z)) (hlim : zs.length ≤ 100000000) (hB : B ≤ W.heap.size)
    (h : ∀ v' w', OwnI w' B v' (zs ++ [z]) → W.grownBy w' v.ownBlock → (v'.ownBlock = v.ownBlock ∨ v'.ownBlock = some W.heap.size) → wpList Try.prog ops Q rest (act.put o.dst v') w') : wpList Try.prog ops Q (o :: rest) act W := by
  obtain ⟨iV, hiV, hv0, hv1, hv2⟩ := info_parts infoI
  refine wpList_append_own_at (P := Try.prog) _ hgd s x _ ho B _ iV _ 1 8 Try.underlying26 hiV hv0 hv1 hv2 rfl (by decide) v zs.length _ hs hown ⟨g, 0, none⟩ 1 1 [.int .i64 z] hx rfl (fun j u hj => ?_) (fun u hu => by rw [List.mem_singleton] at hu; subst hu; rfl) (by unfold maxLen; omega) (by omega) hB ?_
  · match j, hj with
    | 0, hj => injection hj with hj; subst hj; rw [Lib.add_plain]; exact hc
    | j + 1, hj => simp at hj
  · intro v' w' O2 g2 _ g3
    exact h v' w' (by unfold OwnI; rw [List.length_append, List.map_append]; exact O2) g2 g3
theorem wpAppN (hgd : o.guard = none) (s x : Operand) (ho : o.op = .call { callee := .builtin .append, args := #[s, x], argTypes := #[36, 36] })
    (B : Nat) (v : Value) (R : List (List Int)) (vs : List Value) (hs : act.eval s = v) (hown : Own2 W B v R vs) (g : Nat) (hx : act.eval x = .slice (some ⟨g, 0, none⟩) 1 1) (hc : W.cell? ⟨g, 0, none⟩ = some (.slice none 0 0)) (hlim : R.length ≤ 100000000) (hB : B ≤ W.heap.size)
    (h : ∀ v' w', Own2 w' B v' (R ++ [[]]) (vs ++ [.slice none 0 0]) → Below B W w' → wpList Try.prog ops Q rest (act.put o.dst v') w') : wpList Try.prog ops Q (o :: rest) act W := by
  obtain ⟨iV, hiV, hv0, hv1, hv2⟩ := info_parts infoR
  refine wpList_append_own_at (P := Try.prog) _ hgd s x _ ho B _ iV _ 1 24 Try.underlying36 hiV hv0 hv1 hv2 rfl (by decide) v R.length _ hs hown.own ⟨g, 0, none⟩ 1 1 [.slice none 0 0] hx rfl (fun j u hj => ?_) (fun u hu => by rw [List.mem_singleton] at hu; subst hu; rfl) (by unfold maxLen; omega) (by omega) hB ?_
  · match j, hj with
    | 0, hj => injection hj with hj; subst hj; rw [Lib.add_plain]; exact hc
    | j + 1, hj => simp at hj
  · intro v' w' O2 g2 _ g3
    exact h v' w' (hown.more O2 g2 g3) ((Below.refl _ _).grown g2 hB (fun k hk => (hown.own.lt k hk).1))
end
theorem Own2.store {W w' : World} {B g n cap k : Nat} {R : List (List Int)} {vs : List Value} {u : Value} (h : Own2 W B (.slice (some ⟨g, 0, none⟩) n cap) R vs) (hu : vs[k]? = some u) (hk : k < n) (hg : W.grownBy w' u.ownBlock) : w'.cell? ⟨g, k, none⟩ = some u ∧ w'.frozen? ⟨g, k, none⟩ = false := by
  have o1 := h.own.kept hg (by
    rcases h.apart k u hu with q | q
    · right; rw [q]; simp [Value.ownBlock]
    · exact .inr (fun e => q e.symm))
  obtain ⟨h1, ⟨h2, _⟩ | ⟨g', cap', cur, e, h3, h4, h5, h6, h7, h8⟩⟩ := o1
  · cases h2
  · injection e with e1 en e2
    injection e1 with e1
    injection e1 with e1
    subst e1 e2
    have hA : At w' g 26 cur := h4
    refine ⟨?_, hA.free k⟩
    rw [hA.cell]
    rw [← h8, List.getElem?_take_of_lt (by omega)] at hu
    simpa using hu
theorem ownI_form {w : World} {B : Nat} {u : Value} {zs : List Int} {z : Int} (h : OwnI w B u (zs ++ [z])) : ∃ a c, u = .slice a (zs.length + 1) c := by
  obtain ⟨_, ⟨_, h0⟩ | ⟨g, cap, cur, e, _⟩⟩ := h
  · simp at h0
  · exact ⟨some ⟨g, 0, none⟩, cap, by rw [e, List.length_append]; rfl⟩
/-- A glyph's cells, in every world of the class. -/
theorem gy_grown {W : World} {al : Option Addr} {L : List Gy} (h : GyAt W al L) {z : Int} (h0 : 0 ≤ z) (h1 : z < L.length) : ∃ b off, al = some ⟨b, off, none⟩ ∧ ∀ j u, (gyA L z).cs[j]? = some u → ∀ n os, (grow (W.drewN n) os).cell? ⟨b, off + z.toNat * 10 + j, none⟩ = some u := by
  obtain ⟨b, off, e, hb, hc⟩ := h z.toNat _ (gyA_at h0 h1)
  exact ⟨b, off, e, fun j u hu => cell_grown (a := ⟨b, off + z.toNat * 10 + j, none⟩) hb (hc j u hu)⟩
theorem below_grow (w : World) (n : Nat) (os : Array Obj) : Below w.heap.size w (grow (w.drewN n) os) := ⟨rfl, rfl, rfl, by rw [size_grow]; exact Nat.le_add_right _ _, fun k hk => heap_grow_old _ _ hk⟩
set_option maxHeartbeats 8000000 in
theorem words_says (L : List Gy) (zs : List Int) (al a : Option Addr) (c c2 : Nat) (w : World) (hzl : zs.length ≤ 1000) (hok : ∀ g ∈ L, GyOk g) (hz : ∀ z ∈ zs, 0 ≤ z ∧ z < L.length) (hG : GyAt w al L) (hI : InAt w a zs) :
    Calls Try.prog 20 #[.slice al L.length c, .slice a zs.length c2] w fun e w' => ∃ v vs, e = .returned v ∧ Own2 w' w.heap.size v (wdsP L zs zs.length) vs ∧ Below w.heap.size w w' := by
  have HG := hid hG
  have HI := hid hI
  have HZ := hid hz
  have HK := hid (fun (z : Int) (h0 : 0 ≤ z) (h1 : z < L.length) => hok (gyA L z) (List.mem_of_getElem? (gyA_at h0 h1)))
  have mx := mixed
  clear hG hI hz hok
  go_enter Try.func20, Try.ntmps20
  go_wp2_with fail
  go_loopw [5, 11] (fun v i wr => ∃ (p : Nat) (vs : List Value), i = .int .i64 p ∧ p ≤ zs.length ∧ Hid (Own2 wr w.heap.size v (wdsP L zs p) vs) ∧ Below w.heap.size w wr) (fun _ i _ => zs.length - (intOf i).toNat)
  case atStart => exact ⟨0, [], rfl, Nat.zero_le _, hid (Own2.nil _ _), Below.refl _ _⟩
  case round =>
    obtain ⟨p, vs, rfl, hp, HO, hB⟩ := hrel
    by_cases hpl : p < zs.length
    · have hpl' : (p : Int) < zs.length := by omega
      obtain ⟨b, off, rfl, hb, cz⟩ := (HI.out.later hB) p _ (List.getElem?_eq_getElem hpl)
      have hzp := HZ.out _ (List.getElem_mem hpl)
      have HN := hid (show newW L zs p = (decide (p = 0) || rom (gyA L (zs[p - 1]?.getD 0)) (gyA L zs[p])) by unfold newW; rw [List.getElem?_eq_getElem hpl]; rfl)
      have HW := hid (show wdsP L zs (p + 1) = pushR (if newW L zs p then wdsP L zs p ++ [[]] else wdsP L zs p) zs[p] by rw [wdsP, List.getElem?_eq_getElem hpl]; rfl)
      generalize hzz : zs[p] = z at *
      go_upto_region 5 with fail
      go_cut [32] from 16 to 32 (fun t wx => t = .bool (newW L zs p) ∧ Hid (Own2 wx w.heap.size u5 (wdsP L zs p) vs) ∧ Below w.heap.size w wx)
      case first =>
        by_cases h0 : p = 0
        · have hd : ((p : Int) == 0) = true := by simp [h0]
          have e := HN.out
          rw [h0] at e
          subst h0
          go_wp2_with fail
          go_region
          go_wp2_with fail
          go_meet
          exact ⟨by rw [e]; rfl, hid (HO.out.later (by go_grown)), hB.drew⟩
        · obtain ⟨q, rfl⟩ : ∃ q, p = q + 1 := ⟨p - 1, by omega⟩
          have hd : ((q : Int) + 1 == 0) = false := by simp; omega
          have hd2 : ¬ (q : Int) + 1 = 0 := by omega
          have hd3 : decide ((q : Int) + 1 = 0) = false := decide_eq_false hd2
          have rb : IntKind.i64.wrap (q : Int) = (q : Int) := by rw [IntKind.wrap_i64]; omega
          have hq3 : (q : Int) < zs.length := by omega
          have hql : q < zs.length := by omega
          obtain ⟨b', off', e1, hb', cq⟩ := (HI.out.later hB) q _ (List.getElem?_eq_getElem hql)
          injection e1 with e1
          injection e1 with e1 e2
          subst e1 e2
          have hzq := HZ.out _ (List.getElem_mem hql)
          have e := HN.out
          rw [Nat.add_sub_cancel, List.getElem?_eq_getElem hql] at e
          have e3 : newW L zs (q + 1) = rom (gyA L zs[q]) (gyA L z) := by rw [e]; simp
          have HE := hid e3
          clear e e3 HN
          generalize zs[q] = y at *
          obtain ⟨bx, ox, ex, gx⟩ := gy_grown (HG.out.later hB) hzq.1 hzq.2
          obtain ⟨by', oy, ey, gy⟩ := gy_grown (HG.out.later hB) hzp.1 hzp.2
          subst ex
          injection ey with ey
          injection ey with ey1 ey2
          subst ey1 ey2
          have gx0 := gx 0 _ rfl
          have gx1 := gx 1 _ rfl
          have gx2 := gx 2 _ rfl
          have gx3 := gx 3 _ rfl
          have gx4 := gx 4 _ rfl
          have gx5 := gx 5 _ rfl
          have gx6 := gx 6 _ rfl
          have gx7 := gx 7 _ rfl
          have gx8 := gx 8 _ rfl
          have gx9 := gx 9 _ rfl
          have gy0 := gy 0 _ rfl
          have gy1 := gy 1 _ rfl
          have gy2 := gy 2 _ rfl
          have gy3 := gy 3 _ rfl
          have gy4 := gy 4 _ rfl
          have gy5 := gy 5 _ rfl
          have gy6 := gy 6 _ rfl
          have gy7 := gy 7 _ rfl
          have gy8 := gy 8 _ rfl
          have gy9 := gy 9 _ rfl
          simp only [Nat.add_zero] at gx0 gy0
          have kx := HK.out y hzq.1 hzq.2
          have ky := HK.out z hzp.1 hzp.2
          have g0 := cell_grown (w := wr) (a := ⟨b, off + q, none⟩) hb' cq
          obtain ⟨hy0, hy1⟩ := hzq
          obtain ⟨hz0, hz1⟩ := hzp
          have hc : ∀ (n : Nat) (os : Array Obj), Calls Try.prog 26 #[(gyA L y).v, (gyA L z).v] (grow (wr.drewN n) os) fun e w' => e = .returned (.bool (rom (gyA L y) (gyA L z))) ∧ ∃ q os', w' = grow ((grow (wr.drewN n) os).drewN q) os' := fun n os => room_says _ _ _ kx ky
          clear gx gy kx ky
          generalize gyA L y = X at *
          generalize gyA L z = Y at *
          go_wp2_with fail
          go_quiet_grown (first | (go_at_call 26; refine Calls.grown_of (hc _ _)))
          go_wp2_with fail
          go_meet
          exact ⟨by rw [HE.out], hid (HO.out.later (below_grow _ _ _)), hB.trans ((below_grow _ _ _).mono hB.size)⟩
      case rest =>
        obtain ⟨rfl, HO2, hB2⟩ := hcut
        clear HO HN cz hB
        have hwl := wdsP_len L zs p
        obtain ⟨R1, hR1⟩ : ∃ R1, R1 = if newW L zs p then wdsP L zs p ++ [[]] else wdsP L zs p := ⟨_, rfl⟩
        have HY := hid (show ∀ r ∈ R1, r.length ≤ 1000 from fun r hr => by
          rw [hR1] at hr
          split at hr
          · rcases List.mem_append.1 hr with q | q
            · have := wdsP_row L zs p r q; omega
            · rw [List.mem_singleton] at q; subst q; simp
          · have := wdsP_row L zs p r hr; omega)
        have HR := hid (show 0 < R1.length ∧ R1.length ≤ 1001 ∧ wdsP L zs (p + 1) = pushR R1 z from by
          have e := HW.out
          rw [← hR1] at e
          refine ⟨?_, ?_, e⟩
          · have q := wdsP_pos L zs (p + 1) (by omega)
            rw [e, pushR_len] at q
            exact q
          · have q := wdsP_len L zs (p + 1)
            rw [e, pushR_len] at q
            omega)
        have HR1 := hid hR1
        clear hR1 HW
        generalize newW L zs p = nb at *
        go_upto_if 32 with fail
        go_cut [5] from 33 to 35 (fun v wx => ∃ vs', Hid (Own2 wx w.heap.size v R1 vs') ∧ Below w.heap.size w wx)
        case first =>
          cases nb with
          | true =>
            have e := HR1.out
            rw [if_pos rfl] at e
            go_wp2_with (at_builtin; go_loud (refine wpAppN rfl _ _ rfl w.heap.size _ _ vs rfl (HO2.out.later ((Below.refl _ _).alloc (Nat.le_refl _) _)) _ rfl (by simp) (by omega) (by have := hB2.size; simp; omega) ?_); intro v' w2 hO2 hb2; have H2 := hid (And.intro hO2 hb2); clear hO2 hb2)
            go_meet
            exact ⟨_, hid (by rw [e]; exact H2.out.1), (hB2.alloc hB2.size _).trans H2.out.2⟩
          | false =>
            have e := HR1.out
            rw [if_neg (by simp)] at e
            go_wp2_with fail
            go_meet
            exact ⟨vs, by rw [e]; exact HO2, hB2⟩
        case rest =>
          obtain ⟨vs', HO3, hB3⟩ := hcut
          obtain ⟨q1, q2, q3⟩ := HR.out
          obtain ⟨k, hk⟩ : ∃ k, R1.length = k + 1 := ⟨R1.length - 1, by omega⟩
          obtain ⟨u, ys, hu, hy, hOu⟩ := HO3.out.at (show k < R1.length by omega)
          obtain ⟨g, cap, cur, ev, hg1, hg2, hg3, hg4, hg5, hg6⟩ : ∃ g cap cur, u5 = .slice (some ⟨g, 0, none⟩) (k + 1) cap ∧ w.heap.size ≤ g ∧ At wc g 26 cur ∧ k + 1 ≤ cap ∧ cap ≤ maxLen ∧ cur.size = cap * 1 ∧ cur.toList.take ((k + 1) * 1) = vs' := by
            obtain ⟨_, ⟨_, h0⟩ | ⟨g, cap, cur, e, r⟩⟩ := HO3.out.own
            · omega
            · rw [hk] at e r
              exact ⟨g, cap, cur, e, r⟩
          subst ev
          have cu : wc.cell? ⟨g, k, none⟩ = some u := by
            rw [hg2.cell]
            rw [← hg6, Nat.mul_one, List.getElem?_take_of_lt (by omega)] at hu
            simpa using hu
          obtain ⟨au, cu2, eu⟩ : ∃ a c, u = .slice a ys.length c := by
            obtain ⟨_, ⟨e, h0⟩ | ⟨g, cap, cur, e, _⟩⟩ := hOu
            · exact ⟨none, 0, by rw [e, h0]⟩
            · exact ⟨_, cap, e⟩
          subst eu
          have hyl : ys.length ≤ 1000 := HY.out ys (List.mem_of_getElem? hy)
          have zg := hg2.lt
          have ek : ((k + 1 : Nat) : Int) = (k : Int) + 1 := by omega
          have rk : IntKind.i64.wrap (k : Int) = (k : Int) := by rw [IntKind.wrap_i64]; omega
          have HU := hid hOu
          have HA := hid hg2
          have HV := hid (And.intro hu (And.intro hy (And.intro hk q3)))
          clear hOu hg2 hg6 hu hy hk q3 q1 q2
          go_wp2_with (at_builtin; go_loud (refine wpAppJ rfl _ _ rfl w.heap.size (.slice au ys.length cu2) ys rfl (by exact World.ownsRow.alloc HU.out _) _ z rfl (by simp) (by omega) (by have := hB3.size; simp; omega) ?_); intro u' w3 hO4 hg4' hb4; obtain ⟨a4, c4, e4⟩ := ownI_form hO4; subst e4; have H4 := hid (And.intro hO4 (And.intro hg4' hb4)); obtain ⟨s1, s2⟩ := (HO3.out.later ((Below.refl _ _).alloc (Nat.le_refl _) _)).store HV.out.1 (Nat.lt_succ_self k) hg4'; clear hO4 hg4' hb4)
          go_roundw
          case rel =>
            have P := ((HO3.out.later ((Below.refl _ _).alloc (Nat.le_refl _) _)).push HV.out.2.2.1.symm HV.out.1 (Nat.lt_succ_self k) H4.out.1 H4.out.2.1 H4.out.2.2)
            refine ⟨p + 1, vs'.set k (.slice a4 (ys.length + 1) c4), by go_num, by omega, hid ?_, ?_⟩
            · have e : wdsP L zs (p + 1) = R1.set k (ys ++ [z]) := by
                rw [HV.out.2.2.2]
                unfold pushR
                rw [HV.out.2.2.1, Nat.add_sub_cancel, HV.out.2.1]
                rfl
              rw [e]
              exact P.1
            · have b1 := (hB3.alloc hB3.size _).grown H4.out.2.1 (by have := hB3.size; simp; omega) (fun q hq => (World.ownsRow.lt HU.out q hq).1)
              refine b1.trans ⟨rfl, rfl, rfl, by simp [World.setCell], fun q hq => Below.heap_setCell _ _ _ _ (by have := P.2.2; show q ≠ g; omega)⟩
          case measure => simp [intOf]; omega
    · have hpl' : ¬ (p : Int) < zs.length := by omega
      have e : p = zs.length := by omega
      subst e
      go_wp2_with fail
      go_ret
      first | exact ⟨_, rfl, ⟨vs, HO.out⟩, hB⟩ | exact ⟨_, vs, rfl, HO.out, hB⟩
end Go.Proofs.Ytogdfjkbkhnobaa
