/-
  A page's text, the answer's (R.Laid).
-/
import Derived.Test.YtogdfjkbkhnobaaTd
namespace Go.Proofs.Ytogdfjkbkhnobaa
open Go.Shelf Go.RowKit Go.Lib Go.Sort
set_option maxRecDepth 1000000

def LaidRes (L : List Gy) (w : World) (e : Ending) (w' : World) : Prop := ∃ v1 v2 v3 R, e = .returned (.tuple #[v1, v2, v3]) ∧ Lns L R ∧ OwnI w' w.heap.size v1 ((txL L R).map fun x => x.1) ∧ OwnI w' w.heap.size v2 ((txL L R).map fun x => x.2.1) ∧ OwnI w' w.heap.size v3 ((txL L R).map fun x => x.2.2) ∧ Below w.heap.size w w'
theorem own_less {w : World} {B B' : Nat} {T n : Nat} {v : Value} {us : List Value} (h : w.ownsRow B T 1 v n us) (hB : B' ≤ B) : w.ownsRow B' T 1 v n us := by
  obtain ⟨q1, q2 | ⟨g, cap, cur, e, q3, q4⟩⟩ := h
  · exact ⟨q1, .inl q2⟩
  · exact ⟨q1, .inr ⟨g, cap, cur, e, Nat.le_trans hB q3, q4⟩⟩
theorem txs_push (l : List (Int × Int × Int)) (x : Int × Int × Int) : txs (l ++ [x]) = [(l.map fun x => Value.int .i64 x.1) ++ [.int .i64 x.1], (l.map fun x => Value.int .i64 x.2.1) ++ [.int .i64 x.2.1], (l.map fun x => Value.int .i64 x.2.2) ++ [.int .i64 x.2.2]] := by simp [txs]
theorem lnR_len {L : List Gy} (hs : ∀ z : Int, (gyA L z).s.size ≤ 60) (n : Nat) (r : List Int) : ∀ k, (lnR L n r k).length ≤ 61 * k
  | 0 => by simp [lnR]
  | k + 1 => by
    have q := lnR_len hs n r k
    have q2 := sgG_len L (r[k]?.getD 0) n (hs _)
    rw [lnR, List.length_append, List.length_append]
    split <;> simp <;> omega
/-- A block beside the rows. -/
def Beside (W : World) (vs : List Value) (G : Option (Nat × TypeId × Array Value)) : Prop := ∀ g T cs, G = some (g, T, cs) → At W g T cs ∧ ∀ v ∈ vs, v.ownBlock ≠ some g
theorem Beside.then {W w' : World} {vs : List Value} {G : Option (Nat × TypeId × Array Value)} (h : Beside W vs G) (hb : Below W.heap.size W w') : Beside w' vs G := fun g T cs e => ⟨(h g T cs e).1.later hb, (h g T cs e).2⟩
theorem RowsV.app {w2 W w' : World} {i : Nat} {vs : List Value} {xs : List (List Value)} {v v' y : Value} {x : List Value} {G : Option (Nat × TypeId × Array Value)} (h : RowsV W w2.heap.size vs xs ∧ Below w2.heap.size w2 W ∧ Beside W vs G) (o : Obj) (hv : vs[i]? = some v) (hx : xs[i]? = some x)
    (h1 : w'.ownsRow w2.heap.size 3 1 v' (x ++ [y]).length (x ++ [y])) (hg : (W.alloc o).grownBy w' v.ownBlock) (hb : v'.ownBlock = v.ownBlock ∨ v'.ownBlock = some (W.alloc o).heap.size) : RowsV w' w2.heap.size (vs.set i v') (xs.set i (x ++ [y])) ∧ Below w2.heap.size w2 w' ∧ Beside w' (vs.set i v') G := by
  refine ⟨(h.1.kept ((Below.refl _ _).alloc (Nat.le_refl _) o)).push hv h1 hg hb, (h.2.1.alloc h.2.1.size _).grown hg (Nat.le_trans h.2.1.size (by simp)) (fun k hk => (World.ownsRow.lt (h.1.row i v x hv hx) k hk).1), fun g T cs e => ?_⟩
  obtain ⟨q1, q2⟩ := h.2.2 g T cs e
  have hvm := List.mem_of_getElem? hv
  refine ⟨(hg.block g (by have := q1.lt; simp; omega) (fun z => q2 v hvm z.symm)).trans (q1.alloc o), fun u hu z => ?_⟩
  rcases List.mem_or_eq_of_mem_set hu with p | p
  · exact q2 u p z
  · subst p
    rcases hb with e2 | e2
    · exact q2 v hvm (e2 ▸ z)
    · rw [e2] at z
      injection z with z
      have := q1.lt
      simp at z
      omega
/-- The text so far, and a block beside it. -/
def LdG (w2 wr : World) (v1 v2 v3 : Value) (l : List (Int × Int × Int)) (G : Option (Nat × TypeId × Array Value)) : Prop := RowsV wr w2.heap.size [v1, v2, v3] (txs l) ∧ Below w2.heap.size w2 wr ∧ Beside wr [v1, v2, v3] G
theorem LdG.then {w2 wr w' : World} {v1 v2 v3 : Value} {l : List (Int × Int × Int)} {G : Option (Nat × TypeId × Array Value)} (h : LdG w2 wr v1 v2 v3 l G) (hb : Below wr.heap.size wr w') : LdG w2 w' v1 v2 v3 l G := ⟨h.1.kept hb, h.2.1.trans (hb.mono h.2.1.size), h.2.2.then hb⟩
theorem LdG.none {w2 wr : World} {v1 v2 v3 : Value} {l : List (Int × Int × Int)} {G : Option (Nat × TypeId × Array Value)} (h : LdG w2 wr v1 v2 v3 l G) : LdG w2 wr v1 v2 v3 l none := ⟨h.1, h.2.1, fun _ _ _ e => by cases e⟩
/-- A block that came later. -/
theorem LdG.new {w2 wr w' : World} {v1 v2 v3 : Value} {l : List (Int × Int × Int)} {G : Option (Nat × TypeId × Array Value)} (h : LdG w2 wr v1 v2 v3 l G) (hb : Below wr.heap.size wr w') {g : Nat} {T : TypeId} {cs : Array Value} (hA : At w' g T cs) (hg : wr.heap.size ≤ g) : LdG w2 w' v1 v2 v3 l (some (g, T, cs)) := by
  refine ⟨h.1.kept hb, h.2.1.trans (hb.mono h.2.1.size), fun g' T' cs' e => ?_⟩
  injection e with e
  injection e with e1 e2
  injection e2 with e2 e3
  subst e1 e2 e3
  refine ⟨hA, fun v hv z => ?_⟩
  obtain ⟨i, hi, rfl⟩ := List.getElem_of_mem hv
  have q := h.1.row i _ _ (List.getElem?_eq_getElem hi) (List.getElem?_eq_getElem (by have := h.1.lx; omega))
  have := (World.ownsRow.lt q g z).2
  omega
theorem runes_beside {w2 wc w6 : World} {v1 v2 v3 v6 : Value} {l : List (Int × Int × Int)} {rs : List Nat} (h : LdG w2 wc v1 v2 v3 l none) (hO : Own64 w6 wc.heap.size v6 rs) (hb : Below wc.heap.size wc w6) : ∃ a6 c6 G, v6 = .slice a6 rs.length c6 ∧ LdG w2 w6 v1 v2 v3 l G ∧ ∀ W v1' v2' v3' l', LdG w2 W v1' v2' v3' l' G → ∀ (j q : Nat), rs[j]? = some q → ∃ g6, a6 = some ⟨g6, 0, none⟩ ∧ W.cell? ⟨g6, j, none⟩ = some (.int .i64 (q : Int)) := by
  obtain ⟨q0, ⟨rfl, q2⟩ | ⟨g, cap, cur, rfl, q3, q4, q5, q6, q7, q8⟩⟩ := hO
  · have e : rs = [] := List.eq_nil_of_length_eq_zero q2
    subst e
    exact ⟨none, 0, none, rfl, h.then hb, fun W _ _ _ _ _ j q hj => by simp at hj⟩
  · have hA : At w6 g 3 cur := q4
    refine ⟨some ⟨g, 0, none⟩, cap, some (g, 3, cur), rfl, h.new hb hA q3, fun W _ _ _ _ hW j q hj => ⟨g, rfl, ?_⟩⟩
    rw [(hW.2.2 _ _ _ rfl).1.cell]
    have hjl := (List.getElem?_eq_some_iff.1 hj).1
    have e0 : (rs.map intV)[j]? = some (.int .i64 (q : Int)) := by rw [List.getElem?_map, hj]; rfl
    rw [← q8, Nat.mul_one, List.getElem?_take_of_lt hjl] at e0
    simpa using e0
set_option maxHeartbeats 4000000 in
theorem laidR_says (L : List Gy) (al : Option Addr) (c : Nat) (w : World) (hl : L.length ≤ 1000) (hok : ∀ g ∈ L, GyOk g) (hv : ∀ g ∈ L, (rns g.s.data.toList).isSome = true) (hG : GyAt w al L) :
    Calls Try.prog 9 #[.slice al L.length c] w fun e w' => LaidRes L w e w' := by
  have HG := hid hG
  have HK := hid hok
  have HV := hid hv
  have mx := mixed
  clear hG hok hv
  go_enter Try.func9, Try.ntmps9
  go_wp2_with (go_at_call 13; fail)
  go_at_call 13
  refine (refLines_says L al c w hl HK.out HG.out).mono ?_
  rintro e w2 ⟨v, R, vs, B, rfl, hR, hwB, hO, hb⟩
  have HR := hid hR
  have HB2 := hid hb
  have hRm := hR.many
  have HTl := hid (txL_len hR hl HK.out)
  obtain ⟨a0, c0, e0, hI⟩ := Own2.is2 (S := fun _ => True) hO fun _ _ _ => trivial
  subst e0
  have HI := hid hI
  have HX := hid (show ∀ n, (txR L R n).length ≤ 60001001 * n from fun n => by rw [txR_eq]; exact txT_len (hR.wOk hl HK.out) n)
  have h2s := hb.size
  clear hR hI hO hwB hb
  go_wp2_with fail
  go_loopw [5, 6, 7, 9] (fun v1 v2 v3 i wr => ∃ n : Nat, i = .int .i64 n ∧ n ≤ R.length ∧ Hid (LdG w2 wr v1 v2 v3 (txR L R n) none)) (fun _ _ _ i _ => R.length - (intOf i).toNat)
  case atStart => exact ⟨0, rfl, Nat.zero_le _, hid ⟨rowsV_nil _ _, Below.refl _ _, fun _ _ _ e => by cases e⟩⟩
  case round =>
    obtain ⟨n, rfl, hn, HO⟩ := hrel
    by_cases hnl : n < R.length
    · have hnl' : (n : Int) < R.length := by omega
      have hRn : R[n]? = some R[n] := List.getElem?_eq_getElem hnl
      have HE := hid (show txR L R (n + 1) = (txR L R n ++ (if n = 0 then [] else [(10, -1, (n : Int) - 1)])) ++ lnR L n R[n] R[n].length by rw [txR, hRn, List.append_assoc]; rfl)
      have HY := hid (HX.out n)
      have HRr := hid (HR.out.row (List.getElem_mem hnl))
      obtain ⟨b, off, u, e1, _, hb, cu, hu⟩ := HI.out n _ hRn
      subst e1
      clear hRn
      generalize R[n] = r at *
      obtain ⟨au, cu2, eu, hu⟩ := hu
      subst eu
      have HU := hid hu
      have HCu := hid (fun (W : World) (hW : Below w2.heap.size w2 W) => (hW.cell (p := ⟨b, off + n, none⟩) hb).trans cu)
      clear hu cu
      have hrl : r.length ≤ 1000 := Nat.le_trans HRr.out.2 hl
      obtain ⟨l1, hl1⟩ : ∃ l1, l1 = txR L R n ++ (if n = 0 then [] else [(10, -1, (n : Int) - 1)]) := ⟨_, rfl⟩
      have HL0 := hid (show (txR L R n).length ≤ 70000000000 by have := HY.out; omega)
      have HL1 := hid (show l1.length ≤ 80000000000 by
        have := HL0.out
        rw [hl1, List.length_append]
        split <;> simp <;> omega)
      have HLa := hid (Nat.le_trans HL0.out (by decide : 70000000000 ≤ 1000000000000))
      have HE1 := hid hl1
      rw [← hl1] at HE
      clear hl1
      go_upto_if 24 with fail
      generalize hnb : decide (0 < n) = nb
      have HN := hid hnb
      clear hnb
      go_cut [5, 6, 7] from 25 to 35 (fun v1 v2 v3 wx => Hid (LdG w2 wx v1 v2 v3 l1 none))
      case first =>
        cases nb with
        | false =>
          have e := HE1.out
          rw [if_pos (by have := of_decide_eq_false HN.out; omega), List.append_nil] at e
          go_wp2_with fail
          go_meet
          rw [e]
          exact HO
        | true =>
          have e := HE1.out
          rw [if_neg (by have := of_decide_eq_true HN.out; omega)] at e
          have HEe := hid e
          clear e
          go_wp2_with (first
      | (have := Ha2; at_builtin; go_loud (refine wpApp1 Try.underlying26 infoI rfl (by decide) rfl _ _ rfl w2.heap.size _ _ _ rfl ((Ha2.out.1.kept ((Below.refl _ _).alloc (Nat.le_refl _) _)).row 2 _ _ rfl rfl) _ (.int .i64 ((n : Int) - 1)) rfl rfl (by simp) (by simpa using HLa.out) (Nat.le_trans Ha2.out.2.1.size (by simp)) ?_); intro Hav2 Haw2 q1 q2 q3; go_loud (have Ha3 := hid (RowsV.app (i := 2) Ha2.out _ rfl rfl q1 q2 q3)); clear q1 q2 q3)
      | (have := Ha1; at_builtin; go_loud (refine wpApp1 Try.underlying26 infoI rfl (by decide) rfl _ _ rfl w2.heap.size _ _ _ rfl ((Ha1.out.1.kept ((Below.refl _ _).alloc (Nat.le_refl _) _)).row 1 _ _ rfl rfl) _ (.int .i64 (-1)) rfl rfl (by simp) (by simpa using HLa.out) (Nat.le_trans Ha1.out.2.1.size (by simp)) ?_); intro Hav1 Haw1 q1 q2 q3; go_loud (have Ha2 := hid (RowsV.app (i := 1) Ha1.out _ rfl rfl q1 q2 q3)); clear q1 q2 q3)
      | (at_builtin; go_loud (refine wpApp1 Try.underlying26 infoI rfl (by decide) rfl _ _ rfl w2.heap.size _ _ _ rfl ((HO.out.1.kept ((Below.refl _ _).alloc (Nat.le_refl _) _)).row 0 _ _ rfl rfl) _ (.int .i64 10) rfl rfl (by simp) (by simpa using HLa.out) (Nat.le_trans HO.out.2.1.size (by simp)) ?_); intro Hav0 Haw0 q1 q2 q3; go_loud (have Ha1 := hid (RowsV.app (i := 0) HO.out _ rfl rfl q1 q2 q3)); clear q1 q2 q3))
          go_meet
          rw [HEe.out]
          exact hid ⟨by rw [txs_push]; exact Ha3.out.1, Ha3.out.2⟩
      case rest =>
        have HO2 := hcut
        clear hcut HO HN HE1
        go_wp2_with fail
        go_loopw [5, 6, 7, 10] (fun v1 v2 v3 i wq => ∃ k : Nat, i = .int .i64 k ∧ k ≤ r.length ∧ Hid (LdG w2 wq v1 v2 v3 (l1 ++ lnR L n r k) none)) (fun _ _ _ i _ => r.length - (intOf i).toNat)
        case atStart => exact ⟨0, rfl, Nat.zero_le _, hid (by show LdG _ _ _ _ _ (l1 ++ []) _; rw [List.append_nil]; exact HO2.out)⟩
        case round =>
          obtain ⟨k, rfl, hk, HO3⟩ := hrel
          clear HO2
          have cu1 := HCu.out wr HO3.out.2.1
          by_cases hkl : k < r.length
          · have hkl' : (k : Int) < r.length := by omega
            have hrk : r[k]? = some r[k] := List.getElem?_eq_getElem hkl
            have HEk := hid (show l1 ++ lnR L n r (k + 1) = ((l1 ++ lnR L n r k) ++ (if decide (0 < k) && newW L r k then [(32, -1, (n : Int))] else [])) ++ sgG L r[k] n by rw [lnR, hrk]; simp only [Option.getD_some, List.append_assoc])
            obtain ⟨br, or', u, e3, _, hbr, cz, rfl⟩ := HU.out k _ hrk
            subst e3
            have HUy := hid (show ∀ j y, r[j]? = some y → w2.cell? ⟨br, or' + j, none⟩ = some (.int .i64 y) from fun j y hj => by
              obtain ⟨b', o', u', e4, _, _, d, rfl⟩ := HU.out j y hj
              injection e4 with e4
              injection e4 with e5 e6
              subst e5 e6
              exact d)
            have cz1 := (HO3.out.2.1.cell (p := ⟨br, or' + k, none⟩) hbr).trans cz
            obtain ⟨hz0, hz1⟩ := HRr.out.1 _ (List.getElem_mem hkl)
            have HKz := hid (HK.out _ (List.mem_of_getElem? (gyA_at hz0 hz1)))
            have HVz := hid (HV.out _ (List.mem_of_getElem? (gyA_at hz0 hz1)))
            have HNk := hid (show 0 < k → ∀ y, r[k - 1]? = some y → newW L r k = rom (gyA L y) (gyA L r[k]) from fun h0 y hy => by
              unfold newW
              rw [hy, hrk, decide_eq_false (by omega), Bool.false_or]
              rfl)
            have HSg := hid (show sgG L r[k] n = (rnT (gyA L r[k])).map (fun q : Nat => ((q : Int), r[k], (n : Int))) from rfl)
            obtain ⟨bg, og, eg, hbg, cg⟩ := (HG.out.later (HB2.out.trans (HO3.out.2.1.mono h2s))) r[k].toNat _ (gyA_at hz0 hz1)
            subst eg
            have HGw := hid (fun (W : World) (hW : Below w2.heap.size w2 W) => HG.out.later (HB2.out.trans (hW.mono h2s)))
            clear hrk cz
            generalize hzz : r[k] = z at *
            have g0 := cg 0 _ rfl
            have g1 := cg 1 _ rfl
            have g2 := cg 2 _ rfl
            have g3 := cg 3 _ rfl
            have g4 := cg 4 _ rfl
            have g5 := cg 5 _ rfl
            have g6 := cg 6 _ rfl
            have g7 := cg 7 _ rfl
            have g8 := cg 8 _ rfl
            have g9 := cg 9 _ rfl
            simp only [Nat.add_zero] at g0
            have hZl := rnT_len (gyA L z)
            have hZs := HKz.out.s
            have HZr := hid (show rns (gyA L z).s.data.toList = some (rnT (gyA L z)) from by
              obtain ⟨q, hq⟩ := Option.isSome_iff_exists.1 HVz.out
              unfold rnT
              rw [hq]
              rfl)
            have HLk := hid (show (l1 ++ lnR L n r k).length ≤ 90000000000 by have := HL1.out; have := lnR_len (gyA_size HK.out) n r k; rw [List.length_append]; omega)
            clear cg HVz
            generalize gyA L z = Z at *
            generalize rnT Z = rs at *
            go_upto_region 14 with fail
            have HO4 := hid (HO3.out.new (w' := wr.alloc (.cells #[.string Z.s, .int .i64 Z.ax, .int .i64 Z.ay, .int .i64 Z.ex, .int .i64 Z.ey, .int .i64 Z.sz, .int .i64 Z.x0, .int .i64 Z.y0, .int .i64 Z.x1, .int .i64 Z.y1] 44)) ((Below.refl _ _).alloc (Nat.le_refl _) _) (At.new wr _ _ rfl) (Nat.le_refl _))
            generalize wr.alloc (.cells #[.string Z.s, .int .i64 Z.ax, .int .i64 Z.ay, .int .i64 Z.ex, .int .i64 Z.ey, .int .i64 Z.sz, .int .i64 Z.x0, .int .i64 Z.y0, .int .i64 Z.x1, .int .i64 Z.y1] 44) = W0 at HO4 ⊢
            generalize wr.heap.size = Gb at HO4 ⊢
            clear HO3 g0 g1 g2 g3 g4 g5 g6 g7 g8 g9 cu1 cz1
            go_cut [71] from 55 to 71 (fun bb wx => bb = .bool (decide (0 < k) && newW L r k) ∧ Hid (LdG w2 wx u5 u6 u7 (l1 ++ lnR L n r k) (some (Gb, 44, #[.string Z.s, .int .i64 Z.ax, .int .i64 Z.ay, .int .i64 Z.ex, .int .i64 Z.ey, .int .i64 Z.sz, .int .i64 Z.x0, .int .i64 Z.y0, .int .i64 Z.x1, .int .i64 Z.y1])) ))
            case first =>
              by_cases h0 : k = 0
              · have hd : ¬ (0 : Int) < k := by omega
                have hd2 : ¬ 0 < k := by omega
                have hd3 : decide (0 < k) = false := decide_eq_false hd2
                have hd4 : decide ((0 : Int) < k) = false := decide_eq_false hd
                clear h0
                go_region
                go_wp2_with fail
                go_meet
                exact ⟨by rw [hd3]; rfl, hid (HO4.out.then (Below.refl _ _).drew)⟩
              · obtain ⟨y, hy⟩ : ∃ y, r[k - 1]? = some y := ⟨_, List.getElem?_eq_getElem (by omega)⟩
                have HNe := hid (HNk.out (by omega) y hy)
                obtain ⟨hy0, hy1⟩ := HRr.out.1 y (List.mem_of_getElem? hy)
                have ky := HK.out _ (List.mem_of_getElem? (gyA_at hy0 hy1))
                obtain ⟨bg', og', eg, hbgW, cgy⟩ := (HGw.out W0 HO4.out.2.1) y.toNat _ (gyA_at hy0 hy1)
                injection eg with eg
                injection eg with eg1 eg2
                subst eg1 eg2
                have cuW := HCu.out W0 HO4.out.2.1
                have hbW := Nat.lt_of_lt_of_le hb HO4.out.2.1.size
                have hbrW := Nat.lt_of_lt_of_le hbr HO4.out.2.1.size
                have cyW := (HO4.out.2.1.cell (p := ⟨br, or' + (k - 1), none⟩) hbr).trans (HUy.out (k - 1) y hy)
                have hAG := (HO4.out.2.2 _ _ _ rfl).1
                generalize gyA L y = X at *
                have hc : ∀ (W : World), Calls Try.prog 14 #[X.v, Z.v] W fun e w' => e = .returned (.bool (rom X Z)) ∧ Below W.heap.size W w' := fun W => (apart_says X Z W ky HKz.out).mono fun e w' ⟨he, q, os, hw⟩ => ⟨he, by rw [hw]; exact below_grow _ _ _⟩
                have HC := hid hc
                have H0 := hid (show ∀ W, Below W0.heap.size W0 W → Below W0.heap.size W0 W ∧ W.cell? ⟨b, off + n, none⟩ = some (.slice (some ⟨br, or', none⟩) r.length cu2) ∧ W.cell? ⟨br, or' + (k - 1), none⟩ = some (.int .i64 y) ∧ W.cell? ⟨bg, og + y.toNat * 10, none⟩ = some (.string X.s) ∧ W.cell? ⟨bg, og + y.toNat * 10 + 1, none⟩ = some (.int .i64 X.ax) ∧ W.cell? ⟨bg, og + y.toNat * 10 + 2, none⟩ = some (.int .i64 X.ay) ∧ W.cell? ⟨bg, og + y.toNat * 10 + 3, none⟩ = some (.int .i64 X.ex) ∧ W.cell? ⟨bg, og + y.toNat * 10 + 4, none⟩ = some (.int .i64 X.ey) ∧ W.cell? ⟨bg, og + y.toNat * 10 + 5, none⟩ = some (.int .i64 X.sz) ∧ W.cell? ⟨bg, og + y.toNat * 10 + 6, none⟩ = some (.int .i64 X.x0) ∧ W.cell? ⟨bg, og + y.toNat * 10 + 7, none⟩ = some (.int .i64 X.y0) ∧ W.cell? ⟨bg, og + y.toNat * 10 + 8, none⟩ = some (.int .i64 X.x1) ∧ W.cell? ⟨bg, og + y.toNat * 10 + 9, none⟩ = some (.int .i64 X.y1) ∧ W.cell? ⟨Gb, 0, none⟩ = some (.string Z.s) ∧ W.cell? ⟨Gb, 1, none⟩ = some (.int .i64 Z.ax) ∧ W.cell? ⟨Gb, 2, none⟩ = some (.int .i64 Z.ay) ∧ W.cell? ⟨Gb, 3, none⟩ = some (.int .i64 Z.ex) ∧ W.cell? ⟨Gb, 4, none⟩ = some (.int .i64 Z.ey) ∧ W.cell? ⟨Gb, 5, none⟩ = some (.int .i64 Z.sz) ∧ W.cell? ⟨Gb, 6, none⟩ = some (.int .i64 Z.x0) ∧ W.cell? ⟨Gb, 7, none⟩ = some (.int .i64 Z.y0) ∧ W.cell? ⟨Gb, 8, none⟩ = some (.int .i64 Z.x1) ∧ W.cell? ⟨Gb, 9, none⟩ = some (.int .i64 Z.y1) from fun W hW => ⟨hW, ((hW.cell (p := ⟨b, off + n, none⟩) hbW).trans cuW), ((hW.cell (p := ⟨br, or' + (k - 1), none⟩) hbrW).trans cyW), ((hW.cell (p := ⟨bg, og + y.toNat * 10, none⟩) hbgW).trans (by have := cgy 0 _ rfl; simpa using this)), ((hW.cell (p := ⟨bg, og + y.toNat * 10 + 1, none⟩) hbgW).trans (cgy 1 _ rfl)), ((hW.cell (p := ⟨bg, og + y.toNat * 10 + 2, none⟩) hbgW).trans (cgy 2 _ rfl)), ((hW.cell (p := ⟨bg, og + y.toNat * 10 + 3, none⟩) hbgW).trans (cgy 3 _ rfl)), ((hW.cell (p := ⟨bg, og + y.toNat * 10 + 4, none⟩) hbgW).trans (cgy 4 _ rfl)), ((hW.cell (p := ⟨bg, og + y.toNat * 10 + 5, none⟩) hbgW).trans (cgy 5 _ rfl)), ((hW.cell (p := ⟨bg, og + y.toNat * 10 + 6, none⟩) hbgW).trans (cgy 6 _ rfl)), ((hW.cell (p := ⟨bg, og + y.toNat * 10 + 7, none⟩) hbgW).trans (cgy 7 _ rfl)), ((hW.cell (p := ⟨bg, og + y.toNat * 10 + 8, none⟩) hbgW).trans (cgy 8 _ rfl)), ((hW.cell (p := ⟨bg, og + y.toNat * 10 + 9, none⟩) hbgW).trans (cgy 9 _ rfl)), (by simpa using (hAG.later hW).cell 0), (by simpa using (hAG.later hW).cell 1), (by simpa using (hAG.later hW).cell 2), (by simpa using (hAG.later hW).cell 3), (by simpa using (hAG.later hW).cell 4), (by simpa using (hAG.later hW).cell 5), (by simpa using (hAG.later hW).cell 6), (by simpa using (hAG.later hW).cell 7), (by simpa using (hAG.later hW).cell 8), (by simpa using (hAG.later hW).cell 9)⟩)
                have hd : (0 : Int) < k := by omega
                have hd2 : 0 < k := by omega
                have hd3 : decide (0 < k) = true := decide_eq_true hd2
                have hd4 : decide ((0 : Int) < k) = true := decide_eq_true hd
                have hk1 : (1 : Int) ≤ k := by omega
                have hk2 : 1 ≤ k := by omega
                have hk3 : (k : Int) - 1 < r.length := by omega
                have hk4 : ((k : Int) - 1).toNat = k - 1 := by omega
                have rk : IntKind.i64.wrap ((k : Int) - 1) = (k : Int) - 1 := by rw [IntKind.wrap_i64]; omega
                clear hc cuW cyW cgy hAG hy ky h0
                go_region_held3 (fun (W : World) => Below W0.heap.size W0 W ∧ W.cell? ⟨b, off + n, none⟩ = some (.slice (some ⟨br, or', none⟩) r.length cu2) ∧ W.cell? ⟨br, or' + (k - 1), none⟩ = some (.int .i64 y) ∧ W.cell? ⟨bg, og + y.toNat * 10, none⟩ = some (.string X.s) ∧ W.cell? ⟨bg, og + y.toNat * 10 + 1, none⟩ = some (.int .i64 X.ax) ∧ W.cell? ⟨bg, og + y.toNat * 10 + 2, none⟩ = some (.int .i64 X.ay) ∧ W.cell? ⟨bg, og + y.toNat * 10 + 3, none⟩ = some (.int .i64 X.ex) ∧ W.cell? ⟨bg, og + y.toNat * 10 + 4, none⟩ = some (.int .i64 X.ey) ∧ W.cell? ⟨bg, og + y.toNat * 10 + 5, none⟩ = some (.int .i64 X.sz) ∧ W.cell? ⟨bg, og + y.toNat * 10 + 6, none⟩ = some (.int .i64 X.x0) ∧ W.cell? ⟨bg, og + y.toNat * 10 + 7, none⟩ = some (.int .i64 X.y0) ∧ W.cell? ⟨bg, og + y.toNat * 10 + 8, none⟩ = some (.int .i64 X.x1) ∧ W.cell? ⟨bg, og + y.toNat * 10 + 9, none⟩ = some (.int .i64 X.y1) ∧ W.cell? ⟨Gb, 0, none⟩ = some (.string Z.s) ∧ W.cell? ⟨Gb, 1, none⟩ = some (.int .i64 Z.ax) ∧ W.cell? ⟨Gb, 2, none⟩ = some (.int .i64 Z.ay) ∧ W.cell? ⟨Gb, 3, none⟩ = some (.int .i64 Z.ex) ∧ W.cell? ⟨Gb, 4, none⟩ = some (.int .i64 Z.ey) ∧ W.cell? ⟨Gb, 5, none⟩ = some (.int .i64 Z.sz) ∧ W.cell? ⟨Gb, 6, none⟩ = some (.int .i64 Z.x0) ∧ W.cell? ⟨Gb, 7, none⟩ = some (.int .i64 Z.y0) ∧ W.cell? ⟨Gb, 8, none⟩ = some (.int .i64 Z.x1) ∧ W.cell? ⟨Gb, 9, none⟩ = some (.int .i64 Z.y1))
                  (first | with_reducible exact H0.out _ (Below.refl _ _) | with_reducible exact H0.out _ (Below.refl _ _).drew | with_reducible exact H0.out _ B1)
                  (first | (go_at_call 14; refine (HC.out _).mono ?_; rintro e w5 ⟨rfl, hb5⟩; (have B1 : Below W0.heap.size W0 w5 := by first | with_reducible exact below_undrew hb5 | with_reducible exact hb5); clear hb5))
                go_wp2_with fail
                go_meet
                exact ⟨by rw [HNe.out, hd3]; rfl, hid (HO4.out.then B1)⟩
            case rest =>
              obtain ⟨rfl, HO5⟩ := hcut
              clear HO4 HNk
              generalize (decide (0 < k) && newW L r k) = nb at *
              obtain ⟨l2, hl2⟩ : ∃ l2, l2 = (l1 ++ lnR L n r k) ++ (if nb = true then [(32, -1, (n : Int))] else []) := ⟨_, rfl⟩
              have HE2 := hid hl2
              have HLb := hid (Nat.le_trans HLk.out (by decide : 90000000000 ≤ 1000000000000))
              have HL2 := hid (show l2.length ≤ 91000000000 by
                have := HLk.out
                rw [List.length_append] at this
                rw [hl2, List.length_append]
                split <;> simp <;> omega)
              have HEk2 := hid (show l1 ++ lnR L n r (k + 1) = l2 ++ sgG L z n by rw [HEk.out, hl2])
              clear hl2 HEk
              generalize l1 ++ lnR L n r k = l0 at *
              go_upto_if 71 with fail
              go_cut [5, 6, 7] from 72 to 81 (fun v1 v2 v3 wx => Hid (LdG w2 wx v1 v2 v3 l2 (some (Gb, 44, #[.string Z.s, .int .i64 Z.ax, .int .i64 Z.ay, .int .i64 Z.ex, .int .i64 Z.ey, .int .i64 Z.sz, .int .i64 Z.x0, .int .i64 Z.y0, .int .i64 Z.x1, .int .i64 Z.y1]))))
              case first =>
                cases nb with
                | false =>
                  have e := HE2.out
                  rw [if_neg (by simp), List.append_nil] at e
                  go_wp2_with fail
                  go_meet
                  rw [e]
                  exact HO5
                | true =>
                  have e := HE2.out
                  rw [if_pos rfl] at e
                  have HEe := hid e
                  clear e
                  go_wp2_with (first
      | (have := Hb2; at_builtin; go_loud (refine wpApp1 Try.underlying26 infoI rfl (by decide) rfl _ _ rfl w2.heap.size _ _ _ rfl ((Hb2.out.1.kept ((Below.refl _ _).alloc (Nat.le_refl _) _)).row 2 _ _ rfl rfl) _ (.int .i64 (n : Int)) rfl rfl (by simp) (by simpa using HLb.out) (Nat.le_trans Hb2.out.2.1.size (by simp)) ?_); intro Hbv2 Hbw2 q1 q2 q3; go_loud (have Hb3 := hid (RowsV.app (i := 2) Hb2.out _ rfl rfl q1 q2 q3)); clear q1 q2 q3)
      | (have := Hb1; at_builtin; go_loud (refine wpApp1 Try.underlying26 infoI rfl (by decide) rfl _ _ rfl w2.heap.size _ _ _ rfl ((Hb1.out.1.kept ((Below.refl _ _).alloc (Nat.le_refl _) _)).row 1 _ _ rfl rfl) _ (.int .i64 (-1)) rfl rfl (by simp) (by simpa using HLb.out) (Nat.le_trans Hb1.out.2.1.size (by simp)) ?_); intro Hbv1 Hbw1 q1 q2 q3; go_loud (have Hb2 := hid (RowsV.app (i := 1) Hb1.out _ rfl rfl q1 q2 q3)); clear q1 q2 q3)
      | (at_builtin; go_loud (refine wpApp1 Try.underlying26 infoI rfl (by decide) rfl _ _ rfl w2.heap.size _ _ _ rfl ((HO5.out.1.kept ((Below.refl _ _).alloc (Nat.le_refl _) _)).row 0 _ _ rfl rfl) _ (.int .i64 32) rfl rfl (by simp) (by simpa using HLb.out) (Nat.le_trans HO5.out.2.1.size (by simp)) ?_); intro Hbv0 Hbw0 q1 q2 q3; go_loud (have Hb1 := hid (RowsV.app (i := 0) HO5.out _ rfl rfl q1 q2 q3)); clear q1 q2 q3))
                  go_meet
                  rw [HEe.out]
                  exact hid ⟨by rw [txs_push]; exact Hb3.out.1, Hb3.out.2⟩
              case rest =>
                have HO6 := hcut
                clear hcut HO5 HE2
                have cs0 : wc.cell? ⟨Gb, 0, none⟩ = some (.string Z.s) := by simpa using (HO6.out.2.2 _ _ _ rfl).1.cell 0
                go_wp2_with (go_at_call 16; fail)
                go_at_call 16
                refine (runes_says Z.s wc (by omega)).mono ?_
                rintro e w6 ⟨⟨hn6, _⟩ | ⟨rs', v6, hn6, rfl, hO6⟩, hb6⟩
                · rw [HZr.out] at hn6; cases hn6
                · rw [HZr.out] at hn6
                  injection hn6 with hn6
                  subst hn6
                  obtain ⟨a6, c6, G6, rfl, h7, h8⟩ := runes_beside HO6.out.none hO6 hb6
                  have HO7 := hid h7
                  have HC7 := hid h8
                  have HCz := hid (fun (W : World) (hW : Below w2.heap.size w2 W) => (hW.cell (p := ⟨br, or' + k, none⟩) hbr).trans (HUy.out k z (by rw [List.getElem?_eq_getElem hkl, hzz])))
                  clear h7 h8 hO6 hb6 HO6 cs0
                  go_wp2_with fail
                  go_loopw [5, 6, 7, 14] (fun v1 v2 v3 i wq => ∃ j : Nat, i = .int .i64 j ∧ j ≤ rs.length ∧ Hid (LdG w2 wq v1 v2 v3 (l2 ++ (rs.take j).map (fun q : Nat => ((q : Int), z, (n : Int)))) G6)) (fun _ _ _ i _ => rs.length - (intOf i).toNat)
                  case atStart => exact ⟨0, rfl, Nat.zero_le _, hid (by rw [List.take_zero, List.map_nil, List.append_nil]; exact HO7.out)⟩
                  case round =>
                    obtain ⟨j, rfl, hj, HO8⟩ := hrel
                    clear HO7
                    by_cases hjl : j < rs.length
                    · have hjl' : (j : Int) < rs.length := by omega
                      obtain ⟨g6, e6, cq⟩ := HC7.out wr _ _ _ _ HO8.out j _ (List.getElem?_eq_getElem hjl)
                      subst e6
                      have HEj := hid (show l2 ++ (rs.take (j + 1)).map (fun q : Nat => ((q : Int), z, (n : Int))) = (l2 ++ (rs.take j).map (fun q : Nat => ((q : Int), z, (n : Int)))) ++ [((rs[j] : Int), z, (n : Int))] by rw [List.take_succ_eq_append_getElem hjl, List.map_append, List.append_assoc]; rfl)
                      have HLj := hid (show (l2 ++ (rs.take j).map (fun q : Nat => ((q : Int), z, (n : Int)))).length ≤ 1000000000000 by have := HL2.out; rw [List.length_append, List.length_map, List.length_take]; omega)
                      generalize l2 ++ (rs.take j).map (fun q : Nat => ((q : Int), z, (n : Int))) = l3 at *
                      generalize rs[j] = q at *
                      have cuB := HCu.out wr HO8.out.2.1
                      have czB := HCz.out wr HO8.out.2.1
                      go_wp2_with (first
      | (have := Hd2; at_builtin; go_loud (refine wpApp1 Try.underlying26 infoI rfl (by decide) rfl _ _ rfl w2.heap.size _ _ _ rfl ((Hd2.out.1.kept ((Below.refl _ _).alloc (Nat.le_refl _) _)).row 2 _ _ rfl rfl) _ (.int .i64 (n : Int)) rfl rfl (by simp) (by simpa using HLj.out) (Nat.le_trans Hd2.out.2.1.size (by simp)) ?_); intro Hdv2 Hdw2 q1 q2 q3; go_loud (have Hd3 := hid (RowsV.app (i := 2) Hd2.out _ rfl rfl q1 q2 q3)); clear q1 q2 q3)
      | (have := Hd1; at_builtin; go_loud (refine wpApp1 Try.underlying26 infoI rfl (by decide) rfl _ _ rfl w2.heap.size _ _ _ rfl ((Hd1.out.1.kept ((Below.refl _ _).alloc (Nat.le_refl _) _)).row 1 _ _ rfl rfl) _ (.int .i64 z) rfl rfl (by simp) (by simpa using HLj.out) (Nat.le_trans Hd1.out.2.1.size (by simp)) ?_); intro Hdv1 Hdw1 q1 q2 q3; go_loud (have Hd2 := hid (RowsV.app (i := 1) Hd1.out _ rfl rfl q1 q2 q3)); clear q1 q2 q3)
      | (at_builtin; go_loud (refine wpApp1 Try.underlying26 infoI rfl (by decide) rfl _ _ rfl w2.heap.size _ _ _ rfl ((HO8.out.1.kept ((Below.refl _ _).alloc (Nat.le_refl _) _)).row 0 _ _ rfl rfl) _ (.int .i64 (q : Int)) rfl rfl (by simp) (by simpa using HLj.out) (Nat.le_trans HO8.out.2.1.size (by simp)) ?_); intro Hdv0 Hdw0 q1 q2 q3; go_loud (have Hd1 := hid (RowsV.app (i := 0) HO8.out _ rfl rfl q1 q2 q3)); clear q1 q2 q3; have cuD := HCu.out _ Hd1.out.2.1; have czD := HCz.out _ Hd1.out.2.1))
                      go_roundw
                      case rel => exact ⟨j + 1, by go_num, by omega, hid (by rw [HEj.out]; exact ⟨by rw [txs_push]; exact Hd3.out.1, Hd3.out.2⟩)⟩
                      case measure => simp [intOf]; omega
                    · have hjl' : ¬ (j : Int) < rs.length := by omega
                      have e : j = rs.length := by omega
                      subst e
                      have HD8 := hid (show LdG w2 wr u5 u6 u7 (l1 ++ lnR L n r (k + 1)) none from by have := HO8.out.none; rw [List.take_length] at this; rw [HEk2.out, HSg.out]; exact this)
                      clear HO8
                      go_wp2_with fail
                      go_roundw
                      case rel => exact ⟨k + 1, by go_num, by omega, HD8⟩
                      case measure => simp [intOf]; omega
          · have hkl' : ¬ (k : Int) < r.length := by omega
            have e : k = r.length := by omega
            subst e
            go_wp2_with fail
            go_roundw
            case rel => exact ⟨n + 1, by go_num, by omega, hid (by rw [HE.out]; exact HO3.out)⟩
            case measure => simp [intOf]; omega
    · have hnl' : ¬ (n : Int) < R.length := by omega
      have e : n = R.length := by omega
      subst e
      have HD := hid (show LdG w2 wr u5 u6 u7 (txL L R) none from by have := HO.out; rw [txR_all] at this; exact this)
      clear HO
      go_wp2_with fail
      refine bodyPost_ret (v := .tuple #[u5, u6, u7]) (by simp [results, Try.results9, go_sem]) rfl ⟨_, _, _, R, rfl, HR.out, ?_, ?_, ?_, HB2.out.trans (HD.out.2.1.mono h2s)⟩
      · unfold OwnI; have q := own_less (HD.out.1.row 0 _ _ rfl rfl) h2s; simp only [List.length_map, List.map_map] at q ⊢; exact q
      · unfold OwnI; have q := own_less (HD.out.1.row 1 _ _ rfl rfl) h2s; simp only [List.length_map, List.map_map] at q ⊢; exact q
      · unfold OwnI; have q := own_less (HD.out.1.row 2 _ _ rfl rfl) h2s; simp only [List.length_map, List.map_map] at q ⊢; exact q
end Go.Proofs.Ytogdfjkbkhnobaa
