/-
  The program's reader: dictionaries, whole.
-/
import Derived.Test.YtfkjoppehbmomaaGreatDoorYu
namespace Go.Proofs.YtfkjoppehbmomaaGreatDoor
open Go.RowKit
set_option maxRecDepth 100000

set_option maxHeartbeats 8000000 in
theorem yDict (m : Int) (P : Nat) (s : ByteArray) (k d : Nat) (deep : Int) (f : Nat → Rd) (w : World) (hE : Env m P w) (hR : RdAt w P s k) (hk : k + 2 ≤ s.size) (hs : s.size ≤ 100000) (hd : 0 ≤ deep ∧ deep ≤ 8)
    (hval : ∀ (w : World) (j : Nat), Env m P w → RdAt w P s j → j ≤ s.size → Calls Tryz.prog 22 #[.pointer (some ⟨P, 0, none⟩), .int .i64 (deep + 1)] w (Said P w s d (f j))) :
    Calls Tryz.prog 38 #[.pointer (some ⟨P, 0, none⟩), .int .i64 deep] w (Said P w s (d + 1) (⟨6, 0, eB, [], (rdD f s 302 [] (k + 2)).1⟩, (rdD f s 302 [] (k + 2)).2.1, (rdD f s 302 [] (k + 2)).2.2)) := by
  have hPl : P < w.heap.size := At.lt hR
  have c1 := hR.c1
  have f1 := At.free hR 1
  have hm0 := (Moved.refl hR).set (i := (k : Int) + 2) (j := k + 2) (by omega)
  obtain ⟨R, hRR⟩ : ∃ R, rdD f s 302 [] (k + 2) = R := ⟨_, rfl⟩
  rw [hRR]
  have HR0 := hid hRR
  clear hRR
  have HV := hid hval
  clear hval
  go_enter Tryz.func38, Tryz.ntmps38
  go_wp2
  go_loopw [7] (fun _ wr => ∃ (j : Nat) (t : Value) (O : List FC), j ≤ s.size ∧ O.length ≤ 300 ∧ Hid ((O.map (·.1)).Pairwise fun p q => Lt p.1 q.1) ∧ rdD f s (302 - O.length) (O.map (·.1)) j = R ∧ Dicted P w wr s j d t O) (fun _ wr => 302 - lenAt4 (w.heap.size + 1) wr)
  case atStart =>
    refine ⟨k + 2, .slice none 0 0, [], by omega, by simp, hid List.Pairwise.nil, HR0.out, ?_, hPl, ?_, ?_, World.ownsRow_nil _ _ _ _, by simp⟩
    · exact (hm0.below hPl ((Below.refl _ _).alloc (by simp [World.setCell]) _)).below hPl ((Below.refl _ _).alloc (by simp [World.setCell]) _)
    · exact (At.new _ _ _ (by simp [World.setCell])).alloc _
    · exact At.new _ _ _ (by simp [World.setCell])
  case round =>
    clear HR0 hm0 c1 f1
    obtain ⟨j, t, O, hj, hO, HP, hT, hW⟩ := hrel
    have HT := hid hT
    clear hT
    have hWs := hW.size
    obtain ⟨a, c, rfl⟩ := own_slice6 hW.own
    obtain ⟨ex, ey, ez, hes⟩ : ∃ x y z, endsR s wEnd2 j = (x, y, z) := ⟨_, _, _, rfl⟩
    have hez := endsR_to2 hj hes
    have HU := hid (show (if ex ≠ 0 then ([], ex, j) else if ey then (O.map (·.1), 0, ez) else if (rdFd f s ez).2.1 ≠ 0 then ([], (rdFd f s ez).2.1, j) else if (getF (rdFd f s ez).1.1 (O.map (·.1))).isSome then ([], 3, j) else if 300 < (O.map (·.1)).length + 1 then ([], 2, j) else rdD f s (302 - O.length - 1) (rsetF (rdFd f s ez).1.1 (rdFd f s ez).1.2 (O.map (·.1)) false) (rdFd f s ez).2.2) = R by
      rw [← HT.out, show 302 - O.length = 302 - O.length - 1 + 1 by omega, rdD_step hes]; rfl)
    clear HT
    have hends := fun (w : World) (h : RdAt w P s j) => yEndsN P s wEnd2 j w h hj hs (by decide) hes
    have HES := hid hes
    clear hes
    by_cases hx : ex = 0
    · subst hx
      rw [errN_0] at hends
      cases ey
      · have HU2 := hid (show (if (rdFd f s ez).2.1 ≠ 0 then ([], (rdFd f s ez).2.1, j) else if (getF (rdFd f s ez).1.1 (O.map (·.1))).isSome then ([], 3, j) else if 300 < (O.map (·.1)).length + 1 then ([], 2, j) else rdD f s (302 - O.length - 1) (rsetF (rdFd f s ez).1.1 (rdFd f s ez).1.2 (O.map (·.1)) false) (rdFd f s ez).2.2) = R by have h := HU.out; rw [if_neg (by simp), if_neg (by simp)] at h; exact h)
        clear HU
        have hv := fun (w : World) (h1 : Env m P w) (h2 : RdAt w P s ez) => yField m P s ez d (deep + 1) f w h1 h2 (endsR_lt hj HES.out) hs HV.out
        have HNM := hid (rdFd_name (f := f) (s := s) (k := ez))
        generalize rdFd f s ez = r at hv HU2 HNM
        obtain ⟨⟨nm, x⟩, e1, z1⟩ := r
        unfold SaidF at hv
        unfold wEnd2 at hends
        simp only at hv
        by_cases he : e1 = 0
        · subst he
          rw [errN_0] at hv
          have HNS := hid (nmOk_size (HNM.out rfl))
          cases hg : (getF nm (O.map (·.1))).isSome
          · have HG := hid hg
            by_cases hmany : O.length + 1 ≤ 300
            · have hm' : ¬ ((300 : Int) < (O.length : Int) + 1) := by omega
              have HRN := hid (show rdD f s (302 - O.length - 1) (rsetF nm x (O.map (·.1)) false) z1 = R by have h := HU2.out; rw [if_neg (by simp), if_neg (by simp only; rw [hg]; simp), if_neg (by simp; omega)] at h; exact h)
              clear HU2 hg
              go_wp2_with (first | (go_at_call 71; go_must (refine (hends _ hW.mov.at_).mono ?_); rintro e w1 ⟨rfl, hm1⟩; (have hW1 := hW.moved hm1); obtain ⟨⟨bx0, bx1, bx2, bx3, bx4⟩, fx0, fx1, fx2, fx3, fx4⟩ := five_cells hW1.box; obtain ⟨⟨vx0, vx1, vx2, vx3, vx4⟩, fv⟩ := hW1.cells) | (go_at_call 72; go_must (refine (hv _ (hW1.env hE) hm1.at_).mono ?_); rintro e w2 ⟨nm1, k1, n1, t1, a1, a2, l1, c1, l2, c2, J, rfl, hm2, HQ⟩; (have hW2 := hW1.moved hm2); (have hz2 := hW2.size); (have hWa := hW2.below (below_box w2 (.cells #[.string nm1, .int .i64 k1, .int .i64 n1, .string t1, .slice a1 l1 c1, .slice a2 l2 c2] 54))); obtain ⟨⟨by0, by1, by2, by3, by4⟩, fy0, fy1, fy2, fy3, fy4⟩ := five_cells hW2.box; obtain ⟨⟨vy0, vy1, vy2, vy3, vy4⟩, fvy⟩ := hW2.cells; obtain ⟨⟨ba0, ba1, ba2, ba3, ba4⟩, fa0, fa1, fa2, fa3, fa4⟩ := five_cells hWa.box; obtain ⟨⟨va0, va1, va2, va3, va4⟩, fva⟩ := hWa.cells) | (go_at_call 73; obtain ⟨hJ, hJs, hNm, hRep⟩ := HQ.out (by first | trivial | rfl); subst hNm; go_must (refine (dSearch nm1 _ _ _ _ _ false hO HP.out HG.out (by simp [Value.oneCell']) hWa).mono ?_); rintro e w3 ⟨⟨tt, rfl, HFND⟩, hb3⟩; (have hW3 := hWa.below hb3); obtain ⟨⟨bb0, bb1, bb2, bb3, bb4⟩, fb0, fb1, fb2, fb3, fb4⟩ := five_cells hW3.box; obtain ⟨⟨vb0, vb1, vb2, vb3, vb4⟩, fvb⟩ := hW3.cells; (have hFb := At.later (At.new w2 #[.string nm1, .int .i64 k1, .int .i64 n1, .string t1, .slice a1 l1 c1, .slice a2 l2 c2] 54 rfl) hb3); (have hFl := At.lt hFb); obtain ⟨⟨qb0, qb1, qb2, qb3, qb4, qb5⟩, _⟩ := six_cells hFb) | (go_at_call 75; go_must (refine (dInsert x nm1 _ _ _ _ _ hO (by have := HFND.out.le; simpa using this) (by simp [Value.oneCell']) hW3 ⟨HNS.out, hW1.fresh (Below.trans (below_box w2 _) (hb3.mono (by simp))) hRep⟩).mono ?_); rintro e w4 ⟨a', c', rfl, hA1, hA2, HY⟩; obtain ⟨⟨bz0, bz1, bz2, bz3, bz4⟩, fz0, fz1, fz2, fz3, fz4⟩ := five_cells hA2; obtain ⟨⟨vz0, vz1, vz2, vz3, vz4⟩, gz0, gz1, gz2, gz3, gz4⟩ := five_cells hA1))
              have hFD := HFND.out
              have hmap : (O.take tt ++ ((nm1, x), [.int .i64 k1, .int .i64 n1, .string t1, .slice a1 l1 c1, .slice a2 l2 c2]) :: O.drop tt).map (·.1) = (O.map (·.1)).take tt ++ (nm1, x) :: (O.map (·.1)).drop tt := by
                rw [List.map_append, List.map_cons, List.map_take, List.map_drop]
              have hl : (O.take tt ++ ((nm1, x), [.int .i64 k1, .int .i64 n1, .string t1, .slice a1 l1 c1, .slice a2 l2 c2]) :: O.drop tt).length = O.length + 1 := by
                have := hFD.le; simp at this; simp; omega
              refine ⟨⟨J, _, _, hJs, by rw [hl]; omega, hid (by rw [hmap]; exact hFD.rises HP.out x), ?_, HY.out⟩, ?_⟩
              · have h := HRN.out
                rw [← hJ, hFD.rset HP.out x, ← hmap] at h
                rw [hl, show 302 - (O.length + 1) = 302 - O.length - 1 by omega]
                exact h
              · rw [lenAt4_at HY.out.vbox, lenAt4_at hW.vbox]; omega
            · have hm' : (300 : Int) < (O.length : Int) + 1 := by omega
              have HRN := hid (show ([], 2, j) = R by have h := HU2.out; rw [if_neg (by simp), if_neg (by simp only; rw [hg]; simp), if_pos (by simp; omega)] at h; exact h)
              clear HU2 hg
              go_wp2_with (first | (go_at_call 71; go_must (refine (hends _ hW.mov.at_).mono ?_); rintro e w1 ⟨rfl, hm1⟩; (have hW1 := hW.moved hm1); obtain ⟨⟨bx0, bx1, bx2, bx3, bx4⟩, fx0, fx1, fx2, fx3, fx4⟩ := five_cells hW1.box; obtain ⟨⟨vx0, vx1, vx2, vx3, vx4⟩, fv⟩ := hW1.cells) | (go_at_call 72; go_must (refine (hv _ (hW1.env hE) hm1.at_).mono ?_); rintro e w2 ⟨nm1, k1, n1, t1, a1, a2, l1, c1, l2, c2, J, rfl, hm2, HQ⟩; (have hW2 := hW1.moved hm2); (have hz2 := hW2.size); (have hWa := hW2.below (below_box w2 (.cells #[.string nm1, .int .i64 k1, .int .i64 n1, .string t1, .slice a1 l1 c1, .slice a2 l2 c2] 54))); obtain ⟨⟨by0, by1, by2, by3, by4⟩, fy0, fy1, fy2, fy3, fy4⟩ := five_cells hW2.box; obtain ⟨⟨vy0, vy1, vy2, vy3, vy4⟩, fvy⟩ := hW2.cells; obtain ⟨⟨ba0, ba1, ba2, ba3, ba4⟩, fa0, fa1, fa2, fa3, fa4⟩ := five_cells hWa.box; obtain ⟨⟨va0, va1, va2, va3, va4⟩, fva⟩ := hWa.cells) | (go_at_call 73; obtain ⟨hJ, hJs, hNm, hRep⟩ := HQ.out (by first | trivial | rfl); subst hNm; go_must (refine (dSearch nm1 _ _ _ _ _ false hO HP.out HG.out (by simp [Value.oneCell']) hWa).mono ?_); rintro e w3 ⟨⟨tt, rfl, HFND⟩, hb3⟩; (have hW3 := hWa.below hb3); obtain ⟨⟨bb0, bb1, bb2, bb3, bb4⟩, fb0, fb1, fb2, fb3, fb4⟩ := five_cells hW3.box; obtain ⟨⟨vb0, vb1, vb2, vb3, vb4⟩, fvb⟩ := hW3.cells; (have hFb := At.later (At.new w2 #[.string nm1, .int .i64 k1, .int .i64 n1, .string t1, .slice a1 l1 c1, .slice a2 l2 c2] 54 rfl) hb3); (have hFl := At.lt hFb); obtain ⟨⟨qb0, qb1, qb2, qb3, qb4, qb5⟩, _⟩ := six_cells hFb) | (go_at_call 75; go_must (refine (dInsert x nm1 _ _ _ _ _ hO (by have := HFND.out.le; simpa using this) (by simp [Value.oneCell']) hW3 ⟨HNS.out, hW1.fresh (Below.trans (below_box w2 _) (hb3.mono (by simp))) hRep⟩).mono ?_); rintro e w4 ⟨a', c', rfl, hA1, hA2, HY⟩; obtain ⟨⟨bz0, bz1, bz2, bz3, bz4⟩, fz0, fz1, fz2, fz3, fz4⟩ := five_cells hA2; obtain ⟨⟨vz0, vz1, vz2, vz3, vz4⟩, gz0, gz1, gz2, gz3, gz4⟩ := five_cells hA1))
              obtain ⟨hM5, hB5, hP5⟩ := HY.out.fill (by have := HFND.out.le; simp at this; simp; omega) (.int .i64 0) (.int .i64 0) (.string ⟨#[]⟩) (.slice none 0 0) (.slice none 0 0) rfl
              unfold set5 at hM5 hB5 hP5
              generalize World.setCell _ _ _ = wf at hM5 hB5 hP5 ⊢
              obtain ⟨⟨cx0, cx1, cx2, cx3, cx4⟩, _⟩ := five_cells hB5
              refine bodyPost_ret (v := .tuple #[.agg #[.int .i64 0, .int .i64 0, .string ⟨#[]⟩, .slice none 0 0, .slice none 0 0], .iface 44 (.int .i64 2)]) (by simp [results, Tryz.results38, go_sem, cx0, cx1, cx2, cx3, cx4]; try first | exact ⟨rfl, rfl⟩ | rfl) rfl ?_
              rw [← HRN.out]
              exact ⟨0, 0, ⟨#[]⟩, none, none, 0, 0, 0, 0, _, rfl, hM5, hid (fun h => absurd (show (2 : Int) = 0 from h) (by decide))⟩
          · have HG := hid hg
            have HRN := hid (show ([], 3, j) = R by have h := HU2.out; rw [if_neg (by simp), if_pos (by simp only; exact hg)] at h; exact h)
            clear HU2 hg
            go_wp2_with (first | (go_at_call 71; go_must (refine (hends _ hW.mov.at_).mono ?_); rintro e w1 ⟨rfl, hm1⟩; (have hW1 := hW.moved hm1); obtain ⟨⟨bx0, bx1, bx2, bx3, bx4⟩, fx0, fx1, fx2, fx3, fx4⟩ := five_cells hW1.box; obtain ⟨⟨vx0, vx1, vx2, vx3, vx4⟩, fv⟩ := hW1.cells) | (go_at_call 72; go_must (refine (hv _ (hW1.env hE) hm1.at_).mono ?_); rintro e w2 ⟨nm1, k1, n1, t1, a1, a2, l1, c1, l2, c2, J, rfl, hm2, HQ⟩; (have hW2 := hW1.moved hm2); (have hz2 := hW2.size); (have hWa := hW2.below (below_box w2 (.cells #[.string nm1, .int .i64 k1, .int .i64 n1, .string t1, .slice a1 l1 c1, .slice a2 l2 c2] 54))); obtain ⟨⟨by0, by1, by2, by3, by4⟩, fy0, fy1, fy2, fy3, fy4⟩ := five_cells hW2.box; obtain ⟨⟨vy0, vy1, vy2, vy3, vy4⟩, fvy⟩ := hW2.cells; obtain ⟨⟨ba0, ba1, ba2, ba3, ba4⟩, fa0, fa1, fa2, fa3, fa4⟩ := five_cells hWa.box; obtain ⟨⟨va0, va1, va2, va3, va4⟩, fva⟩ := hWa.cells) | (go_at_call 73; obtain ⟨hJ, hJs, hNm, hRep⟩ := HQ.out (by first | trivial | rfl); subst hNm; go_must (refine (dSearch nm1 _ _ _ _ _ true hO HP.out HG.out (by simp [Value.oneCell']) hWa).mono ?_); rintro e w3 ⟨⟨tt, rfl, HFND⟩, hb3⟩; (have hW3 := hWa.below hb3); obtain ⟨⟨bb0, bb1, bb2, bb3, bb4⟩, fb0, fb1, fb2, fb3, fb4⟩ := five_cells hW3.box; obtain ⟨⟨vb0, vb1, vb2, vb3, vb4⟩, fvb⟩ := hW3.cells; (have hFb := At.later (At.new w2 #[.string nm1, .int .i64 k1, .int .i64 n1, .string t1, .slice a1 l1 c1, .slice a2 l2 c2] 54 rfl) hb3); (have hFl := At.lt hFb); obtain ⟨⟨qb0, qb1, qb2, qb3, qb4, qb5⟩, _⟩ := six_cells hFb))
            obtain ⟨hM5, hB5, hP5⟩ := hW3.fill (by omega) (.int .i64 0) (.int .i64 0) (.string ⟨#[]⟩) (.slice none 0 0) (.slice none 0 0) rfl
            unfold set5 at hM5 hB5 hP5
            generalize World.setCell _ _ _ = wf at hM5 hB5 hP5 ⊢
            obtain ⟨⟨cx0, cx1, cx2, cx3, cx4⟩, _⟩ := five_cells hB5
            refine bodyPost_ret (v := .tuple #[.agg #[.int .i64 0, .int .i64 0, .string ⟨#[]⟩, .slice none 0 0, .slice none 0 0], .iface 44 (.int .i64 3)]) (by simp [results, Tryz.results38, go_sem, cx0, cx1, cx2, cx3, cx4]; try first | exact ⟨rfl, rfl⟩ | rfl) rfl ?_
            rw [← HRN.out]
            exact ⟨0, 0, ⟨#[]⟩, none, none, 0, 0, 0, 0, _, rfl, hM5, hid (fun h => absurd (show (3 : Int) = 0 from h) (by decide))⟩
        · have HRN := hid (show ([], e1, j) = R by rw [← HU2.out, if_pos he])
          have HX := hid he
          rw [errN_pos he] at hv
          unfold errV at hv
          clear HU2 he
          go_wp2_with (first | (go_at_call 71; go_must (refine (hends _ hW.mov.at_).mono ?_); rintro e w1 ⟨rfl, hm1⟩; (have hW1 := hW.moved hm1); obtain ⟨⟨bx0, bx1, bx2, bx3, bx4⟩, fx0, fx1, fx2, fx3, fx4⟩ := five_cells hW1.box; obtain ⟨⟨vx0, vx1, vx2, vx3, vx4⟩, fv⟩ := hW1.cells) | (go_at_call 72; go_must (refine (hv _ (hW1.env hE) hm1.at_).mono ?_); rintro e w2 ⟨nm1, k1, n1, t1, a1, a2, l1, c1, l2, c2, J, rfl, hm2, HQ⟩; (have hW2 := hW1.moved hm2); (have hz2 := hW2.size); (have hWa := hW2.below (below_box w2 (.cells #[.string nm1, .int .i64 k1, .int .i64 n1, .string t1, .slice a1 l1 c1, .slice a2 l2 c2] 54))); obtain ⟨⟨by0, by1, by2, by3, by4⟩, fy0, fy1, fy2, fy3, fy4⟩ := five_cells hW2.box; obtain ⟨⟨vy0, vy1, vy2, vy3, vy4⟩, fvy⟩ := hW2.cells; obtain ⟨⟨ba0, ba1, ba2, ba3, ba4⟩, fa0, fa1, fa2, fa3, fa4⟩ := five_cells hWa.box; obtain ⟨⟨va0, va1, va2, va3, va4⟩, fva⟩ := hWa.cells))
          obtain ⟨hM5, hB5, hP5⟩ := hWa.fill (by omega) (.int .i64 0) (.int .i64 0) (.string ⟨#[]⟩) (.slice none 0 0) (.slice none 0 0) rfl
          unfold set5 at hM5 hB5 hP5
          generalize World.setCell _ _ _ = wf at hM5 hB5 hP5 ⊢
          obtain ⟨⟨cx0, cx1, cx2, cx3, cx4⟩, _⟩ := five_cells hB5
          refine bodyPost_ret (v := .tuple #[.agg #[.int .i64 0, .int .i64 0, .string ⟨#[]⟩, .slice none 0 0, .slice none 0 0], .iface 44 (.int .i64 e1)]) (by simp [results, Tryz.results38, go_sem, cx0, cx1, cx2, cx3, cx4]; try first | exact ⟨rfl, rfl⟩ | rfl) rfl ?_
          rw [← HRN.out]
          exact ⟨0, 0, ⟨#[]⟩, none, none, 0, 0, 0, 0, _, by rw [errN_pos HX.out]; rfl, hM5, hid (fun h => absurd h HX.out)⟩
      · have HRN := hid (show (O.map (·.1), 0, ez) = R by have h := HU.out; rw [if_neg (by simp), if_pos rfl] at h; exact h)
        unfold wEnd2 at hends
        clear HU
        go_wp2_with ((go_at_call 71; go_must (refine (hends _ hW.mov.at_).mono ?_); rintro e w1 ⟨rfl, hm1⟩; (have hW1 := hW.moved hm1); obtain ⟨⟨bx0, bx1, bx2, bx3, bx4⟩, fx0, fx1, fx2, fx3, fx4⟩ := five_cells hW1.box; obtain ⟨⟨vx0, vx1, vx2, vx3, vx4⟩, fv⟩ := hW1.cells))
        obtain ⟨hM5, hB5, hP5⟩ := hW1.fill (by omega) (.int .i64 6) (.int .i64 0) (.string ⟨#[]⟩) (.slice none 0 0) (.slice a O.length c) rfl
        unfold set5 at hM5 hB5 hP5
        generalize World.setCell _ _ _ = wf at hM5 hB5 hP5 ⊢
        obtain ⟨⟨cx0, cx1, cx2, cx3, cx4⟩, _⟩ := five_cells hB5
        refine bodyPost_ret (v := .tuple #[.agg #[.int .i64 6, .int .i64 0, .string ⟨#[]⟩, .slice none 0 0, .slice a O.length c], .nilIface]) (by simp [results, Tryz.results38, go_sem, cx0, cx1, cx2, cx3, cx4]; try first | exact ⟨rfl, rfl⟩ | rfl) rfl ?_
        rw [← HRN.out]
        exact ⟨6, 0, ⟨#[]⟩, none, a, 0, 0, _, c, _, by rw [errN_0], hM5, hid (fun _ => ⟨rfl, hez, hP5⟩)⟩
    · have HRN := hid (show ([], ex, j) = R by rw [← HU.out, if_pos hx])
      have HX := hid hx
      rw [errN_pos hx] at hends
      unfold errV wEnd2 at hends
      clear HU hx
      go_wp2_with ((go_at_call 71; go_must (refine (hends _ hW.mov.at_).mono ?_); rintro e w1 ⟨rfl, hm1⟩; (have hW1 := hW.moved hm1); obtain ⟨⟨bx0, bx1, bx2, bx3, bx4⟩, fx0, fx1, fx2, fx3, fx4⟩ := five_cells hW1.box; obtain ⟨⟨vx0, vx1, vx2, vx3, vx4⟩, fv⟩ := hW1.cells))
      all_goals
        obtain ⟨hM5, hB5, hP5⟩ := hW1.fill (by omega) (.int .i64 6) (.int .i64 0) (.string ⟨#[]⟩) (.slice none 0 0) (.slice a O.length c) rfl
        unfold set5 at hM5 hB5 hP5
        generalize World.setCell _ _ _ = wf at hM5 hB5 hP5 ⊢
        obtain ⟨⟨cx0, cx1, cx2, cx3, cx4⟩, _⟩ := five_cells hB5
        refine bodyPost_ret (v := .tuple #[.agg #[.int .i64 6, .int .i64 0, .string ⟨#[]⟩, .slice none 0 0, .slice a O.length c], .iface 44 (.int .i64 ex)]) (by simp [results, Tryz.results38, go_sem, cx0, cx1, cx2, cx3, cx4]; try first | exact ⟨rfl, rfl⟩ | rfl) rfl ?_
        rw [← HRN.out]
        exact ⟨6, 0, ⟨#[]⟩, none, a, 0, 0, _, c, _, by rw [errN_pos HX.out]; rfl, hM5, hid (fun h => absurd h HX.out)⟩
end Go.Proofs.YtfkjoppehbmomaaGreatDoor
