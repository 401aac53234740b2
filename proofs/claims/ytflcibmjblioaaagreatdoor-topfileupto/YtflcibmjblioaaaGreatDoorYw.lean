/-
  Joined: Yua, Yv, Yw.
-/
import Derived.Test.YtflcibmjblioaaaGreatDoorYu

/-
  The program's reader: dictionaries, whole.
-/
namespace Go.Proofs.YtflcibmjblioaaaGreatDoor
open Go.RowKit
set_option maxRecDepth 100000

set_option maxHeartbeats 8000000 in
theorem yDict (m : Int) (P : Nat) (s : ByteArray) (k d : Nat) (deep : Int) (f : Nat → Rd) (w : World) (hE : Env m P w) (hR : RdAt w P s k) (hk : k + 2 ≤ s.size) (hs : s.size ≤ 100000) (hd : 0 ≤ deep ∧ deep ≤ 8)
    (hval : ∀ (w : World) (j : Nat), Env m P w → RdAt w P s j → j ≤ s.size → Calls Tryz.prog 55 #[.pointer (some ⟨P, 0, none⟩), .int .i64 (deep + 1)] w (Said P w s d (f j))) :
    Calls Tryz.prog 92 #[.pointer (some ⟨P, 0, none⟩), .int .i64 deep] w (Said P w s (d + 1) (⟨6, 0, eB, [], (rdD f s 302 [] (k + 2)).1⟩, (rdD f s 302 [] (k + 2)).2.1, (rdD f s 302 [] (k + 2)).2.2)) := by
  have hPl : P < w.heap.size := At.lt hR
  have c1 := hR.c1
  have f1 := At.free hR 1
  have hm0 := (Moved.refl hR).set (i := (k : Int) + 2) (j := k + 2) (by omega)
  obtain ⟨R, hRR⟩ : ∃ R, rdD f s 302 [] (k + 2) = R := ⟨_, rfl⟩
  rw [hRR]
  have HR0 := hid hRR
  clear hRR
  have HV := hid hval
  clear hval
  go_enter Tryz.func92, Tryz.ntmps92
  go_wp2
  go_loopw [7] (fun _ wr => ∃ (j : Nat) (t : Value) (O : List FC), j ≤ s.size ∧ O.length ≤ 300 ∧ Hid ((O.map (·.1)).Pairwise fun p q => Lt p.1 q.1) ∧ rdD f s (302 - O.length) (O.map (·.1)) j = R ∧ Dicted P w wr s j d t O) (fun _ wr => 302 - lenAt4 (w.heap.size + 1) wr)
  case atStart =>
    refine ⟨k + 2, .slice none 0 0, [], by omega, by simp, hid List.Pairwise.nil, HR0.out, ?_, hPl, ?_, ?_, World.ownsRow_nil _ _ _ _, by simp⟩
    · exact (hm0.below hPl ((Below.refl _ _).alloc (by simp [World.setCell]) _)).below hPl ((Below.refl _ _).alloc (by simp [World.setCell]) _)
    · exact (At.new _ _ _ (by simp [World.setCell])).alloc _
    · exact At.new _ _ _ (by simp [World.setCell])
  case round =>
    clear HR0 hm0 c1 f1
    obtain ⟨j, t, O, hj, hO, HP, hT, hW⟩ := hrel
    have HT := hid hT
    clear hT
    have hWs := hW.size
    obtain ⟨a, c, rfl⟩ := own_slice6 hW.own
    obtain ⟨ex, ey, ez, hes⟩ : ∃ x y z, endsR s wEnd2 j = (x, y, z) := ⟨_, _, _, rfl⟩
    have hez := endsR_to2 hj hes
    have HU := hid (show (if ex ≠ 0 then ([], ex, j) else if ey then (O.map (·.1), 0, ez) else if (rdFd f s ez).2.1 ≠ 0 then ([], (rdFd f s ez).2.1, j) else if (getF (rdFd f s ez).1.1 (O.map (·.1))).isSome then ([], 3, j) else if 300 < (O.map (·.1)).length + 1 then ([], 2, j) else rdD f s (302 - O.length - 1) (rsetF (rdFd f s ez).1.1 (rdFd f s ez).1.2 (O.map (·.1)) false) (rdFd f s ez).2.2) = R by
      rw [← HT.out, show 302 - O.length = 302 - O.length - 1 + 1 by omega, rdD_step hes]; rfl)
    clear HT
    have hends := fun (w : World) (h : RdAt w P s j) => yEndsN P s wEnd2 j w h hj hs (by decide) hes
    have HES := hid hes
    clear hes
    by_cases hx : ex = 0
    · subst hx
      rw [errN_0] at hends
      cases ey
      · have HU2 := hid (show (if (rdFd f s ez).2.1 ≠ 0 then ([], (rdFd f s ez).2.1, j) else if (getF (rdFd f s ez).1.1 (O.map (·.1))).isSome then ([], 3, j) else if 300 < (O.map (·.1)).length + 1 then ([], 2, j) else rdD f s (302 - O.length - 1) (rsetF (rdFd f s ez).1.1 (rdFd f s ez).1.2 (O.map (·.1)) false) (rdFd f s ez).2.2) = R by have h := HU.out; rw [if_neg (by simp), if_neg (by simp)] at h; exact h)
        clear HU
        have hv := fun (w : World) (h1 : Env m P w) (h2 : RdAt w P s ez) => yField m P s ez d (deep + 1) f w h1 h2 (endsR_lt hj HES.out) hs HV.out
        have HNM := hid (rdFd_name (f := f) (s := s) (k := ez))
        generalize rdFd f s ez = r at hv HU2 HNM
        obtain ⟨⟨nm, x⟩, e1, z1⟩ := r
        unfold SaidF at hv
        unfold wEnd2 at hends
        simp only at hv
        by_cases he : e1 = 0
        · subst he
          rw [errN_0] at hv
          have HNS := hid (nmOk_size (HNM.out rfl))
          cases hg : (getF nm (O.map (·.1))).isSome
          · have HG := hid hg
            by_cases hmany : O.length + 1 ≤ 300
            · have hm' : ¬ ((300 : Int) < (O.length : Int) + 1) := by omega
              have HRN := hid (show rdD f s (302 - O.length - 1) (rsetF nm x (O.map (·.1)) false) z1 = R by have h := HU2.out; rw [if_neg (by simp), if_neg (by simp only; rw [hg]; simp), if_neg (by simp; omega)] at h; exact h)
              clear HU2 hg
              go_wp2_with (first | (go_at_call 144; go_must (refine (hends _ hW.mov.at_).mono ?_); rintro e w1 ⟨rfl, hm1⟩; (have hW1 := hW.moved hm1); obtain ⟨⟨bx0, bx1, bx2, bx3, bx4⟩, fx0, fx1, fx2, fx3, fx4⟩ := five_cells hW1.box; obtain ⟨⟨vx0, vx1, vx2, vx3, vx4⟩, fv⟩ := hW1.cells) | (go_at_call 145; go_must (refine (hv _ (hW1.env hE) hm1.at_).mono ?_); rintro e w2 ⟨nm1, k1, n1, t1, a1, a2, l1, c1, l2, c2, J, rfl, hm2, HQ⟩; (have hW2 := hW1.moved hm2); (have hz2 := hW2.size); (have hWa := hW2.below (below_box w2 (.cells #[.string nm1, .int .i64 k1, .int .i64 n1, .string t1, .slice a1 l1 c1, .slice a2 l2 c2] 74))); obtain ⟨⟨by0, by1, by2, by3, by4⟩, fy0, fy1, fy2, fy3, fy4⟩ := five_cells hW2.box; obtain ⟨⟨vy0, vy1, vy2, vy3, vy4⟩, fvy⟩ := hW2.cells; obtain ⟨⟨ba0, ba1, ba2, ba3, ba4⟩, fa0, fa1, fa2, fa3, fa4⟩ := five_cells hWa.box; obtain ⟨⟨va0, va1, va2, va3, va4⟩, fva⟩ := hWa.cells) | (go_at_call 146; obtain ⟨hJ, hJs, hNm, hRep⟩ := HQ.out (by first | trivial | rfl); subst hNm; go_must (refine (dSearch nm1 _ _ _ _ _ false hO HP.out HG.out (by simp [Value.oneCell']) hWa).mono ?_); rintro e w3 ⟨⟨tt, rfl, HFND⟩, hb3⟩; (have hW3 := hWa.below hb3); obtain ⟨⟨bb0, bb1, bb2, bb3, bb4⟩, fb0, fb1, fb2, fb3, fb4⟩ := five_cells hW3.box; obtain ⟨⟨vb0, vb1, vb2, vb3, vb4⟩, fvb⟩ := hW3.cells; (have hFb := At.later (At.new w2 #[.string nm1, .int .i64 k1, .int .i64 n1, .string t1, .slice a1 l1 c1, .slice a2 l2 c2] 74 rfl) hb3); (have hFl := At.lt hFb); obtain ⟨⟨qb0, qb1, qb2, qb3, qb4, qb5⟩, _⟩ := six_cells hFb) | (go_at_call 34; go_must (refine (dInsert x nm1 _ _ _ _ _ hO (by have := HFND.out.le; simpa using this) (by simp [Value.oneCell']) hW3 ⟨HNS.out, hW1.fresh (Below.trans (below_box w2 _) (hb3.mono (by simp))) hRep⟩).mono ?_); rintro e w4 ⟨a', c', rfl, hA1, hA2, HY⟩; obtain ⟨⟨bz0, bz1, bz2, bz3, bz4⟩, fz0, fz1, fz2, fz3, fz4⟩ := five_cells hA2; obtain ⟨⟨vz0, vz1, vz2, vz3, vz4⟩, gz0, gz1, gz2, gz3, gz4⟩ := five_cells hA1))
              have hFD := HFND.out
              have hmap : (O.take tt ++ ((nm1, x), [.int .i64 k1, .int .i64 n1, .string t1, .slice a1 l1 c1, .slice a2 l2 c2]) :: O.drop tt).map (·.1) = (O.map (·.1)).take tt ++ (nm1, x) :: (O.map (·.1)).drop tt := by
                rw [List.map_append, List.map_cons, List.map_take, List.map_drop]
              have hl : (O.take tt ++ ((nm1, x), [.int .i64 k1, .int .i64 n1, .string t1, .slice a1 l1 c1, .slice a2 l2 c2]) :: O.drop tt).length = O.length + 1 := by
                have := hFD.le; simp at this; simp; omega
              refine ⟨⟨J, _, _, hJs, by rw [hl]; omega, hid (by rw [hmap]; exact hFD.rises HP.out x), ?_, HY.out⟩, ?_⟩
              · have h := HRN.out
                rw [← hJ, hFD.rset HP.out x, ← hmap] at h
                rw [hl, show 302 - (O.length + 1) = 302 - O.length - 1 by omega]
                exact h
              · rw [lenAt4_at HY.out.vbox, lenAt4_at hW.vbox]; omega
            · have hm' : (300 : Int) < (O.length : Int) + 1 := by omega
              have HRN := hid (show ([], 2, j) = R by have h := HU2.out; rw [if_neg (by simp), if_neg (by simp only; rw [hg]; simp), if_pos (by simp; omega)] at h; exact h)
              clear HU2 hg
              go_wp2_with (first | (go_at_call 144; go_must (refine (hends _ hW.mov.at_).mono ?_); rintro e w1 ⟨rfl, hm1⟩; (have hW1 := hW.moved hm1); obtain ⟨⟨bx0, bx1, bx2, bx3, bx4⟩, fx0, fx1, fx2, fx3, fx4⟩ := five_cells hW1.box; obtain ⟨⟨vx0, vx1, vx2, vx3, vx4⟩, fv⟩ := hW1.cells) | (go_at_call 145; go_must (refine (hv _ (hW1.env hE) hm1.at_).mono ?_); rintro e w2 ⟨nm1, k1, n1, t1, a1, a2, l1, c1, l2, c2, J, rfl, hm2, HQ⟩; (have hW2 := hW1.moved hm2); (have hz2 := hW2.size); (have hWa := hW2.below (below_box w2 (.cells #[.string nm1, .int .i64 k1, .int .i64 n1, .string t1, .slice a1 l1 c1, .slice a2 l2 c2] 74))); obtain ⟨⟨by0, by1, by2, by3, by4⟩, fy0, fy1, fy2, fy3, fy4⟩ := five_cells hW2.box; obtain ⟨⟨vy0, vy1, vy2, vy3, vy4⟩, fvy⟩ := hW2.cells; obtain ⟨⟨ba0, ba1, ba2, ba3, ba4⟩, fa0, fa1, fa2, fa3, fa4⟩ := five_cells hWa.box; obtain ⟨⟨va0, va1, va2, va3, va4⟩, fva⟩ := hWa.cells) | (go_at_call 146; obtain ⟨hJ, hJs, hNm, hRep⟩ := HQ.out (by first | trivial | rfl); subst hNm; go_must (refine (dSearch nm1 _ _ _ _ _ false hO HP.out HG.out (by simp [Value.oneCell']) hWa).mono ?_); rintro e w3 ⟨⟨tt, rfl, HFND⟩, hb3⟩; (have hW3 := hWa.below hb3); obtain ⟨⟨bb0, bb1, bb2, bb3, bb4⟩, fb0, fb1, fb2, fb3, fb4⟩ := five_cells hW3.box; obtain ⟨⟨vb0, vb1, vb2, vb3, vb4⟩, fvb⟩ := hW3.cells; (have hFb := At.later (At.new w2 #[.string nm1, .int .i64 k1, .int .i64 n1, .string t1, .slice a1 l1 c1, .slice a2 l2 c2] 74 rfl) hb3); (have hFl := At.lt hFb); obtain ⟨⟨qb0, qb1, qb2, qb3, qb4, qb5⟩, _⟩ := six_cells hFb) | (go_at_call 34; go_must (refine (dInsert x nm1 _ _ _ _ _ hO (by have := HFND.out.le; simpa using this) (by simp [Value.oneCell']) hW3 ⟨HNS.out, hW1.fresh (Below.trans (below_box w2 _) (hb3.mono (by simp))) hRep⟩).mono ?_); rintro e w4 ⟨a', c', rfl, hA1, hA2, HY⟩; obtain ⟨⟨bz0, bz1, bz2, bz3, bz4⟩, fz0, fz1, fz2, fz3, fz4⟩ := five_cells hA2; obtain ⟨⟨vz0, vz1, vz2, vz3, vz4⟩, gz0, gz1, gz2, gz3, gz4⟩ := five_cells hA1))
              obtain ⟨hM5, hB5, hP5⟩ := HY.out.fill (by have := HFND.out.le; simp at this; simp; omega) (.int .i64 0) (.int .i64 0) (.string ⟨#[]⟩) (.slice none 0 0) (.slice none 0 0) rfl
              unfold set5 at hM5 hB5 hP5
              generalize World.setCell _ _ _ = wf at hM5 hB5 hP5 ⊢
              obtain ⟨⟨cx0, cx1, cx2, cx3, cx4⟩, _⟩ := five_cells hB5
              refine bodyPost_ret (v := .tuple #[.agg #[.int .i64 0, .int .i64 0, .string ⟨#[]⟩, .slice none 0 0, .slice none 0 0], .iface 50 (.int .i64 2)]) (by simp [results, Tryz.results92, go_sem, cx0, cx1, cx2, cx3, cx4]; try first | exact ⟨rfl, rfl⟩ | rfl) rfl ?_
              rw [← HRN.out]
              exact ⟨0, 0, ⟨#[]⟩, none, none, 0, 0, 0, 0, _, rfl, hM5, hid (fun h => absurd (show (2 : Int) = 0 from h) (by decide))⟩
          · have HG := hid hg
            have HRN := hid (show ([], 3, j) = R by have h := HU2.out; rw [if_neg (by simp), if_pos (by simp only; exact hg)] at h; exact h)
            clear HU2 hg
            go_wp2_with (first | (go_at_call 144; go_must (refine (hends _ hW.mov.at_).mono ?_); rintro e w1 ⟨rfl, hm1⟩; (have hW1 := hW.moved hm1); obtain ⟨⟨bx0, bx1, bx2, bx3, bx4⟩, fx0, fx1, fx2, fx3, fx4⟩ := five_cells hW1.box; obtain ⟨⟨vx0, vx1, vx2, vx3, vx4⟩, fv⟩ := hW1.cells) | (go_at_call 145; go_must (refine (hv _ (hW1.env hE) hm1.at_).mono ?_); rintro e w2 ⟨nm1, k1, n1, t1, a1, a2, l1, c1, l2, c2, J, rfl, hm2, HQ⟩; (have hW2 := hW1.moved hm2); (have hz2 := hW2.size); (have hWa := hW2.below (below_box w2 (.cells #[.string nm1, .int .i64 k1, .int .i64 n1, .string t1, .slice a1 l1 c1, .slice a2 l2 c2] 74))); obtain ⟨⟨by0, by1, by2, by3, by4⟩, fy0, fy1, fy2, fy3, fy4⟩ := five_cells hW2.box; obtain ⟨⟨vy0, vy1, vy2, vy3, vy4⟩, fvy⟩ := hW2.cells; obtain ⟨⟨ba0, ba1, ba2, ba3, ba4⟩, fa0, fa1, fa2, fa3, fa4⟩ := five_cells hWa.box; obtain ⟨⟨va0, va1, va2, va3, va4⟩, fva⟩ := hWa.cells) | (go_at_call 146; obtain ⟨hJ, hJs, hNm, hRep⟩ := HQ.out (by first | trivial | rfl); subst hNm; go_must (refine (dSearch nm1 _ _ _ _ _ true hO HP.out HG.out (by simp [Value.oneCell']) hWa).mono ?_); rintro e w3 ⟨⟨tt, rfl, HFND⟩, hb3⟩; (have hW3 := hWa.below hb3); obtain ⟨⟨bb0, bb1, bb2, bb3, bb4⟩, fb0, fb1, fb2, fb3, fb4⟩ := five_cells hW3.box; obtain ⟨⟨vb0, vb1, vb2, vb3, vb4⟩, fvb⟩ := hW3.cells; (have hFb := At.later (At.new w2 #[.string nm1, .int .i64 k1, .int .i64 n1, .string t1, .slice a1 l1 c1, .slice a2 l2 c2] 74 rfl) hb3); (have hFl := At.lt hFb); obtain ⟨⟨qb0, qb1, qb2, qb3, qb4, qb5⟩, _⟩ := six_cells hFb))
            obtain ⟨hM5, hB5, hP5⟩ := hW3.fill (by omega) (.int .i64 0) (.int .i64 0) (.string ⟨#[]⟩) (.slice none 0 0) (.slice none 0 0) rfl
            unfold set5 at hM5 hB5 hP5
            generalize World.setCell _ _ _ = wf at hM5 hB5 hP5 ⊢
            obtain ⟨⟨cx0, cx1, cx2, cx3, cx4⟩, _⟩ := five_cells hB5
            refine bodyPost_ret (v := .tuple #[.agg #[.int .i64 0, .int .i64 0, .string ⟨#[]⟩, .slice none 0 0, .slice none 0 0], .iface 50 (.int .i64 3)]) (by simp [results, Tryz.results92, go_sem, cx0, cx1, cx2, cx3, cx4]; try first | exact ⟨rfl, rfl⟩ | rfl) rfl ?_
            rw [← HRN.out]
            exact ⟨0, 0, ⟨#[]⟩, none, none, 0, 0, 0, 0, _, rfl, hM5, hid (fun h => absurd (show (3 : Int) = 0 from h) (by decide))⟩
        · have HRN := hid (show ([], e1, j) = R by rw [← HU2.out, if_pos he])
          have HX := hid he
          rw [errN_pos he] at hv
          unfold errV at hv
          clear HU2 he
          go_wp2_with (first | (go_at_call 144; go_must (refine (hends _ hW.mov.at_).mono ?_); rintro e w1 ⟨rfl, hm1⟩; (have hW1 := hW.moved hm1); obtain ⟨⟨bx0, bx1, bx2, bx3, bx4⟩, fx0, fx1, fx2, fx3, fx4⟩ := five_cells hW1.box; obtain ⟨⟨vx0, vx1, vx2, vx3, vx4⟩, fv⟩ := hW1.cells) | (go_at_call 145; go_must (refine (hv _ (hW1.env hE) hm1.at_).mono ?_); rintro e w2 ⟨nm1, k1, n1, t1, a1, a2, l1, c1, l2, c2, J, rfl, hm2, HQ⟩; (have hW2 := hW1.moved hm2); (have hz2 := hW2.size); (have hWa := hW2.below (below_box w2 (.cells #[.string nm1, .int .i64 k1, .int .i64 n1, .string t1, .slice a1 l1 c1, .slice a2 l2 c2] 74))); obtain ⟨⟨by0, by1, by2, by3, by4⟩, fy0, fy1, fy2, fy3, fy4⟩ := five_cells hW2.box; obtain ⟨⟨vy0, vy1, vy2, vy3, vy4⟩, fvy⟩ := hW2.cells; obtain ⟨⟨ba0, ba1, ba2, ba3, ba4⟩, fa0, fa1, fa2, fa3, fa4⟩ := five_cells hWa.box; obtain ⟨⟨va0, va1, va2, va3, va4⟩, fva⟩ := hWa.cells))
          obtain ⟨hM5, hB5, hP5⟩ := hWa.fill (by omega) (.int .i64 0) (.int .i64 0) (.string ⟨#[]⟩) (.slice none 0 0) (.slice none 0 0) rfl
          unfold set5 at hM5 hB5 hP5
          generalize World.setCell _ _ _ = wf at hM5 hB5 hP5 ⊢
          obtain ⟨⟨cx0, cx1, cx2, cx3, cx4⟩, _⟩ := five_cells hB5
          refine bodyPost_ret (v := .tuple #[.agg #[.int .i64 0, .int .i64 0, .string ⟨#[]⟩, .slice none 0 0, .slice none 0 0], .iface 50 (.int .i64 e1)]) (by simp [results, Tryz.results92, go_sem, cx0, cx1, cx2, cx3, cx4]; try first | exact ⟨rfl, rfl⟩ | rfl) rfl ?_
          rw [← HRN.out]
          exact ⟨0, 0, ⟨#[]⟩, none, none, 0, 0, 0, 0, _, by rw [errN_pos HX.out]; rfl, hM5, hid (fun h => absurd h HX.out)⟩
      · have HRN := hid (show (O.map (·.1), 0, ez) = R by have h := HU.out; rw [if_neg (by simp), if_pos rfl] at h; exact h)
        unfold wEnd2 at hends
        clear HU
        go_wp2_with ((go_at_call 144; go_must (refine (hends _ hW.mov.at_).mono ?_); rintro e w1 ⟨rfl, hm1⟩; (have hW1 := hW.moved hm1); obtain ⟨⟨bx0, bx1, bx2, bx3, bx4⟩, fx0, fx1, fx2, fx3, fx4⟩ := five_cells hW1.box; obtain ⟨⟨vx0, vx1, vx2, vx3, vx4⟩, fv⟩ := hW1.cells))
        obtain ⟨hM5, hB5, hP5⟩ := hW1.fill (by omega) (.int .i64 6) (.int .i64 0) (.string ⟨#[]⟩) (.slice none 0 0) (.slice a O.length c) rfl
        unfold set5 at hM5 hB5 hP5
        generalize World.setCell _ _ _ = wf at hM5 hB5 hP5 ⊢
        obtain ⟨⟨cx0, cx1, cx2, cx3, cx4⟩, _⟩ := five_cells hB5
        refine bodyPost_ret (v := .tuple #[.agg #[.int .i64 6, .int .i64 0, .string ⟨#[]⟩, .slice none 0 0, .slice a O.length c], .nilIface]) (by simp [results, Tryz.results92, go_sem, cx0, cx1, cx2, cx3, cx4]; try first | exact ⟨rfl, rfl⟩ | rfl) rfl ?_
        rw [← HRN.out]
        exact ⟨6, 0, ⟨#[]⟩, none, a, 0, 0, _, c, _, by rw [errN_0], hM5, hid (fun _ => ⟨rfl, hez, hP5⟩)⟩
    · have HRN := hid (show ([], ex, j) = R by rw [← HU.out, if_pos hx])
      have HX := hid hx
      rw [errN_pos hx] at hends
      unfold errV wEnd2 at hends
      clear HU hx
      go_wp2_with ((go_at_call 144; go_must (refine (hends _ hW.mov.at_).mono ?_); rintro e w1 ⟨rfl, hm1⟩; (have hW1 := hW.moved hm1); obtain ⟨⟨bx0, bx1, bx2, bx3, bx4⟩, fx0, fx1, fx2, fx3, fx4⟩ := five_cells hW1.box; obtain ⟨⟨vx0, vx1, vx2, vx3, vx4⟩, fv⟩ := hW1.cells))
      all_goals
        obtain ⟨hM5, hB5, hP5⟩ := hW1.fill (by omega) (.int .i64 6) (.int .i64 0) (.string ⟨#[]⟩) (.slice none 0 0) (.slice a O.length c) rfl
        unfold set5 at hM5 hB5 hP5
        generalize World.setCell _ _ _ = wf at hM5 hB5 hP5 ⊢
        obtain ⟨⟨cx0, cx1, cx2, cx3, cx4⟩, _⟩ := five_cells hB5
        refine bodyPost_ret (v := .tuple #[.agg #[.int .i64 6, .int .i64 0, .string ⟨#[]⟩, .slice none 0 0, .slice a O.length c], .iface 50 (.int .i64 ex)]) (by simp [results, Tryz.results92, go_sem, cx0, cx1, cx2, cx3, cx4]; try first | exact ⟨rfl, rfl⟩ | rfl) rfl ?_
        rw [← HRN.out]
        exact ⟨6, 0, ⟨#[]⟩, none, a, 0, 0, _, c, _, by rw [errN_pos HX.out]; rfl, hM5, hid (fun h => absurd h HX.out)⟩
end Go.Proofs.YtflcibmjblioaaaGreatDoor

/-
  What reading a value makes, plainly.
-/
namespace Go.Proofs.YtflcibmjblioaaaGreatDoor
open Go.RowKit
set_option maxRecDepth 100000

def nameV (s : ByteArray) (p : Nat) : Rd := match nameR (wordP s (p + 1)).data.toList with
  | none => (V0 4 0 eB, 4, p)
  | some b => (V0 4 0 ⟨b.toArray⟩, 0, p + 1 + (wordP s (p + 1)).size)
def litV (s : ByteArray) (p : Nat) : Rd := (V0 3 0 ⟨(litT (s.data.toList.drop (p + 1)) 1 [] (p + 1)).2.1.toArray⟩, textR (litT (s.data.toList.drop (p + 1)) 1 [] (p + 1)).1 (litT (s.data.toList.drop (p + 1)) 1 [] (p + 1)).2.1, (litT (s.data.toList.drop (p + 1)) 1 [] (p + 1)).2.2)
def hexW (s : ByteArray) (p : Nat) : Rd := (V0 3 0 ⟨(hexTk (s.data.toList.drop (p + 1)) none [] (p + 1)).2.1.toArray⟩, textR (hexTk (s.data.toList.drop (p + 1)) none [] (p + 1)).1 (hexTk (s.data.toList.drop (p + 1)) none [] (p + 1)).2.1, (hexTk (s.data.toList.drop (p + 1)) none [] (p + 1)).2.2)
def listV (f : Nat → Rd) (s : ByteArray) (p : Nat) : Rd := (⟨5, 0, eB, (rdL f s 302 [] (p + 1)).1, []⟩, (rdL f s 302 [] (p + 1)).2.1, (rdL f s 302 [] (p + 1)).2.2)
def dictV (f : Nat → Rd) (s : ByteArray) (p : Nat) : Rd := (⟨6, 0, eB, [], (rdD f s 302 [] (p + 2)).1⟩, (rdD f s 302 [] (p + 2)).2.1, (rdD f s 302 [] (p + 2)).2.2)
def otherV (s : ByteArray) (p : Nat) : Rd := (V0 (otherK s p).1 (otherK s p).2.1 eB, (otherK s p).2.2.1, (otherK s p).2.2.2)
/-- What a value is that begins at p, just there. -/
def rdAt (f : Nat → Rd) (s : ByteArray) (p : Nat) : Rd :=
  if s.data.toList[p]? = some 47 then nameV s p
  else if s.data.toList[p]? = some 40 then litV s p
  else if s.data.toList[p]? = some 60 then (if s.data.toList[p + 1]? = some 60 then dictV f s p else hexW s p)
  else if s.data.toList[p]? = some 91 then listV f s p
  else if (s.data.toList[p]?).map isSg = some true then (V0 0 0 eB, 4, p)
  else otherV s p
/-- What reading a value makes; so many levels are left. -/
def rdV (s : ByteArray) : Nat → Nat → Rd
  | 0, j => (V0 0 0 eB, if skipP s j = s.size then 5 else 2, j)
  | n + 1, j => if skipP s j = s.size then (V0 0 0 eB, 5, j) else rdAt (rdV s n) s (skipP s j)

/-- Does this stand at p? -/
def ahB (s : ByteArray) (p : Nat) (q : ByteArray) : Bool := Lib.hasPrefix (s.data.toList.drop p) q.data.toList
theorem ahB_one {s : ByteArray} {p : Nat} {c : UInt8} (hp : p < s.size) : ahB s p ⟨#[c]⟩ = decide (s[p] = c) := by
  unfold ahB
  rw [drop_at s p hp]
  show List.isPrefixOf [c] (s[p] :: _) = _
  by_cases h : s[p] = c
  · rw [h]; simp [List.isPrefixOf]
  · rw [decide_eq_false h]; simp [List.isPrefixOf, beq_eq_false_iff_ne, Ne.symm h]
theorem ahB_two {s : ByteArray} {p : Nat} {c e : UInt8} (hp : p < s.size) : ahB s p ⟨#[c, e]⟩ = decide (s[p] = c ∧ s.data.toList[p + 1]? = some e) := by
  unfold ahB
  rw [drop_at s p hp]
  show List.isPrefixOf [c, e] (s[p] :: _) = _
  by_cases h : s[p] = c
  · by_cases hq : p + 1 < s.size
    · rw [drop_at s (p + 1) hq, h]
      have hg : s.data.toList[p + 1]? = some s[p + 1] := by rw [List.getElem?_eq_getElem (by simpa using hq)]; rfl
      rw [hg]
      by_cases h2 : s[p + 1] = e
      · rw [h2]; simp [List.isPrefixOf]
      · simp [List.isPrefixOf, beq_eq_false_iff_ne, Ne.symm h2, h2]
    · have hn : s.data.toList[p + 1]? = none := by rw [List.getElem?_eq_none_iff]; simp; omega
      rw [List.drop_eq_nil_of_le (by simp; omega), hn]
      simp [List.isPrefixOf]
  · rw [decide_eq_false (fun q => h q.1)]; simp [List.isPrefixOf, Ne.symm h]
theorem yAheadQ (P : Nat) (s q : ByteArray) (k : Nat) (w : World) (hR : RdAt w P s k) (hk : k ≤ s.size) :
    Calls Tryz.prog 88 #[.pointer (some ⟨P, 0, none⟩), .string q] w fun e w' => e = .returned (.bool (ahB s k q)) ∧ Moved P w w' s k := yAhead P s q k w hR hk
theorem Boxed.fill5 {P : Nat} {w a : World} {s : ByteArray} {j : Nat} (h : Boxed P w a s j) (v0 v1 v2 v3 v4 : Value) {wf : World} (hf : wf = set5 a w.heap.size v0 v1 v2 v3 v4) :
    Moved P w wf s j ∧ At wf w.heap.size 40 #[v0, v1, v2, v3, v4] ∧ wf.heap.size = a.heap.size ∧ ∀ k, k ≠ w.heap.size → wf.heap[k]? = a.heap[k]? := by
  subst hf
  exact ⟨h.mov.set5 (Nat.le_refl _) h.lt _ _ _ _ _, At.five h.box _ _ _ _ _, set5_size _ _ _ _ _ _ _, fun k hk => set5_other _ _ _ _ _ _ _ hk⟩
theorem repIn_boxed {w a wf : World} {d : Nat} {x : V} {cs : List Value} (h1 : wf.heap.size = a.heap.size) (h2 : ∀ k, k ≠ w.heap.size → wf.heap[k]? = a.heap[k]?) {b : World} (hb : w.heap.size < b.heap.size) (hx : RepIn (fun g => b.heap.size ≤ g ∧ g < a.heap.size) d a x cs) :
    RepIn (fun g => w.heap.size ≤ g ∧ g < wf.heap.size) d wf x cs :=
  (hx.agree (by omega) fun g hg => h2 g (by have := hg.1; omega)).mono fun g hg => ⟨by have := hg.1; omega, by have := hg.2; omega⟩
theorem refP_le {s : ByteArray} {k j : Nat} (hk : k ≤ s.size) (h : refP s k = some j) : j ≤ s.size := by
  unfold refP at h
  split at h
  · rename_i h1
    split at h
    · rename_i h2
      injection h with h
      have a1 := yWordLe (s := s) (k := skipP s k) (skipP_le hk).2
      rw [h1] at a1
      have b1 : w0.size = 1 := rfl
      have hk2 : skipP s k + 1 ≤ s.size := by omega
      have a2 := yWordLe (s := s) (k := skipP s (skipP s k + 1)) (skipP_le hk2).2
      rw [h2] at a2
      have b2 : wR.size = 1 := rfl
      omega
    · cases h
  · cases h
theorem otherK_le {s : ByteArray} {k : Nat} (hk : k ≤ s.size) : (otherK s k).2.2.2 ≤ s.size := by
  have hl := yWordLe hk
  unfold otherK
  generalize wordP s k = W at hl ⊢
  have hr : (refP s (k + W.size)).getD (k + W.size) ≤ s.size := by
    cases h : refP s (k + W.size) with
    | none => exact hl
    | some j => exact refP_le hl h
  by_cases h1 : W = wNull
  · simp only [if_pos h1]; exact hl
  · by_cases h2 : W = wTrue
    · simp only [if_neg h1, if_pos h2]; exact hl
    · by_cases h3 : W = wFalse
      · simp only [if_neg h1, if_neg h2, if_pos h3]; exact hl
      · by_cases h4 : objL W.data.toList ≠ 0 ∧ (refP s (k + W.size)).isSome = true
        · simp only [if_neg h1, if_neg h2, if_neg h3, if_pos h4]; exact hr
        · simp only [if_neg h1, if_neg h2, if_neg h3, if_neg h4]; exact hl
theorem textR_zero {e : Int} {xs : List UInt8} (h : textR e xs = 0) : e = 0 ∧ xs.length ≤ 200 := by
  unfold textR at h
  split at h
  · rename_i h1; exact absurd h h1
  · rename_i h1
    split at h
    · exact absurd h (by decide)
    · rename_i h2; exact ⟨by simpa using h1, by omega⟩
theorem yTextC (e : Int) (B : Nat) (v : Value) (xs : List UInt8) (w : World) (hown : Own8 w B v xs) :
    Calls Tryz.prog 90 #[v, errN e] w fun r w' => ∃ (k : Int) (t : ByteArray), r = .returned (.tuple #[.agg #[.int .i64 k, .int .i64 0, .string t, .slice none 0 0, .slice none 0 0], errN (textR e xs)]) ∧ Hid (textR e xs = 0 → k = 3 ∧ t = ⟨xs.toArray⟩) ∧ Below w.heap.size w w' := by
  refine (yText e B v xs w hown).mono ?_
  rintro r w' ⟨rfl, hb⟩
  unfold textV
  by_cases h : textR e xs = 0
  · rw [if_pos h]; exact ⟨3, _, rfl, hid (fun _ => ⟨rfl, rfl⟩), hb⟩
  · rw [if_neg h]; exact ⟨0, _, rfl, hid (fun q => absurd q h), hb⟩
end Go.Proofs.YtflcibmjblioaaaGreatDoor

/-
  The program's reader: a value, case by case.
-/
namespace Go.Proofs.YtflcibmjblioaaaGreatDoor
open Go.RowKit
set_option maxRecDepth 100000

set_option maxHeartbeats 4000000 in
theorem yvName (m : Int) (P : Nat) (s : ByteArray) (j p d : Nat) (deep : Int) (w : World) (_hE : Env m P w) (hR : RdAt w P s j) (hj : j ≤ s.size) (hs : s.size ≤ 100000) (hd : 0 ≤ deep ∧ deep ≤ 8) (hp : skipP s j = p) (hpl : p < s.size) (h47 : s[p] = 47) :
    Calls Tryz.prog 55 #[.pointer (some ⟨P, 0, none⟩), .int .i64 deep] w (Said P w s (d + 1) (nameV s p)) := by
  have hPl : P < w.heap.size := At.lt hR
  have hX := Boxed.new hR
  have hk0 : (0 : Int) ≤ (p : Int) := by omega
  have hk1 : (p : Int) < (s.size : Int) := by omega
  have hd8 : ¬ (8 : Int) < deep := by omega
  have hsk := fun (w : World) (h : RdAt w P s j) => show Calls Tryz.prog 87 #[.pointer (some ⟨P, 0, none⟩)] w fun e w' => e = .returned .nilIface ∧ Moved P w w' s p by
    have q := ySkipOk P s j w h hj hs (by rw [hp]; omega)
    rw [hp] at q; exact q
  have hah := fun (q : ByteArray) (w : World) (h : RdAt w P s p) => yAheadQ P s q p w h (by omega)
  have e47 : ahB s p ⟨#[47]⟩ = true := by rw [ahB_one hpl]; exact decide_eq_true h47
  have hn := fun (w : World) (h : RdAt w P s p) => yName P s p w h hpl h47 hs
  have HL := hid (yWordLe (s := s) (k := p + 1) (by omega))
  clear hp h47
  unfold nameV
  generalize wordP s (p + 1) = W at hn HL ⊢
  cases hr : nameR W.data.toList with
  | none =>
    rw [hr] at hn
    unfold nameOut at hn
    simp only
    clear hr
    go_enter Tryz.func55, Tryz.ntmps55
    go_wp2_with (first | (go_at_call 87; go_must (refine (hsk _ hX.mov.at_).mono ?_); rintro e wa ⟨rfl, hma⟩; (replace hX := hX.moved hma); obtain ⟨⟨bx0, bx1, bx2, bx3, bx4⟩, bf0, bf1, bf2, bf3, bf4⟩ := box5 hX.box) | (go_at_call 88; go_must (refine (hah _ _ hX.mov.at_).mono ?_); rintro e wb ⟨rfl, hmb⟩; (replace hX := hX.moved hmb); obtain ⟨⟨bx0, bx1, bx2, bx3, bx4⟩, bf0, bf1, bf2, bf3, bf4⟩ := box5 hX.box) | (go_at_call 89; go_must (refine (hn _ hX.mov.at_).mono ?_); rintro e wc ⟨rfl, hmc⟩; (replace hX := hX.moved hmc); obtain ⟨⟨bx0, bx1, bx2, bx3, bx4⟩, bf0, bf1, bf2, bf3, bf4⟩ := box5 hX.box))
    obtain ⟨hM5, hB5⟩ := hX.fill 4 0 ⟨#[]⟩
    generalize World.setCell _ _ _ = wf at hB5 hM5 ⊢
    obtain ⟨⟨cx0, cx1, cx2, cx3, cx4⟩, _⟩ := box5 hB5
    refine bodyPost_ret (v := .tuple #[.agg (vc 4 0 ⟨#[]⟩), .iface 50 (.int .i64 4)]) (by simp [results, Tryz.results55, go_sem, cx0, cx1, cx2, cx3, cx4]; try first | exact ⟨rfl, rfl⟩ | rfl) rfl ?_
    exact ⟨4, 0, ⟨#[]⟩, none, none, 0, 0, 0, 0, _, rfl, hM5, hid (fun h => absurd (show (4 : Int) = 0 from h) (by decide))⟩
  | some b =>
    have HBS := hid (show (⟨b.toArray⟩ : ByteArray).size ≤ maxLen from by
      have h1 : (nameL W.data.toList).bind (fun b => if nmOk ⟨b.toArray⟩ then some b else none) = some b := hr
      cases hl : nameL W.data.toList with
      | none => rw [hl] at h1; cases h1
      | some c =>
        rw [hl] at h1
        simp only [Option.bind_some] at h1
        split at h1
        · rename_i hm; cases h1; have := nmOk_size hm; unfold maxLen; omega
        · cases h1)
    rw [hr] at hn
    unfold nameOut at hn
    simp only
    clear hr
    go_enter Tryz.func55, Tryz.ntmps55
    go_wp2_with (first | (go_at_call 87; go_must (refine (hsk _ hX.mov.at_).mono ?_); rintro e wa ⟨rfl, hma⟩; (replace hX := hX.moved hma); obtain ⟨⟨bx0, bx1, bx2, bx3, bx4⟩, bf0, bf1, bf2, bf3, bf4⟩ := box5 hX.box) | (go_at_call 88; go_must (refine (hah _ _ hX.mov.at_).mono ?_); rintro e wb ⟨rfl, hmb⟩; (replace hX := hX.moved hmb); obtain ⟨⟨bx0, bx1, bx2, bx3, bx4⟩, bf0, bf1, bf2, bf3, bf4⟩ := box5 hX.box) | (go_at_call 89; go_must (refine (hn _ hX.mov.at_).mono ?_); rintro e wc ⟨rfl, hmc⟩; (replace hX := hX.moved hmc); obtain ⟨⟨bx0, bx1, bx2, bx3, bx4⟩, bf0, bf1, bf2, bf3, bf4⟩ := box5 hX.box))
    obtain ⟨hM5, hB5⟩ := hX.fill 4 0 ⟨b.toArray⟩
    generalize World.setCell _ _ _ = wf at hB5 hM5 ⊢
    obtain ⟨⟨cx0, cx1, cx2, cx3, cx4⟩, _⟩ := box5 hB5
    refine bodyPost_ret (v := .tuple #[.agg (vc 4 0 ⟨b.toArray⟩), .nilIface]) (by simp [results, Tryz.results55, go_sem, cx0, cx1, cx2, cx3, cx4]; try first | exact ⟨rfl, rfl⟩ | rfl) rfl ?_
    exact ⟨4, 0, _, none, none, 0, 0, 0, 0, _, rfl, hM5, hid (fun _ => ⟨rfl, HL.out, repIn_vc _ _ _ _ _ _ HBS.out⟩)⟩
set_option maxHeartbeats 4000000 in
theorem yvLit (m : Int) (P : Nat) (s : ByteArray) (j p d : Nat) (deep : Int) (w : World) (_hE : Env m P w) (hR : RdAt w P s j) (hj : j ≤ s.size) (hs : s.size ≤ 100000) (hd : 0 ≤ deep ∧ deep ≤ 8) (hp : skipP s j = p) (hpl : p < s.size) (h47 : ¬ s[p] = 47) (h40 : s[p] = 40) :
    Calls Tryz.prog 55 #[.pointer (some ⟨P, 0, none⟩), .int .i64 deep] w (Said P w s (d + 1) (litV s p)) := by
  have hPl : P < w.heap.size := At.lt hR
  have hX := Boxed.new hR
  have hk0 : (0 : Int) ≤ (p : Int) := by omega
  have hk1 : (p : Int) < (s.size : Int) := by omega
  have hd8 : ¬ (8 : Int) < deep := by omega
  have hsk := fun (w : World) (h : RdAt w P s j) => show Calls Tryz.prog 87 #[.pointer (some ⟨P, 0, none⟩)] w fun e w' => e = .returned .nilIface ∧ Moved P w w' s p by
    have q := ySkipOk P s j w h hj hs (by rw [hp]; omega)
    rw [hp] at q; exact q
  have hah := fun (q : ByteArray) (w : World) (h : RdAt w P s p) => yAheadQ P s q p w h (by omega)
  have e47 : ahB s p ⟨#[47]⟩ = false := by rw [ahB_one hpl]; exact decide_eq_false h47
  have e40 : ahB s p ⟨#[40]⟩ = true := by rw [ahB_one hpl]; exact decide_eq_true h40
  have hn := fun (w : World) (h : RdAt w P s p) => yPlain P s p w h hpl hs
  clear hp
  unfold litV
  generalize litT (s.data.toList.drop (p + 1)) 1 [] (p + 1) = r at hn ⊢
  obtain ⟨e1, xs, z⟩ := r
  simp only at hn ⊢
  go_enter Tryz.func55, Tryz.ntmps55
  go_wp2_with (first | (go_at_call 87; go_must (refine (hsk _ hX.mov.at_).mono ?_); rintro e wa ⟨rfl, hma⟩; (replace hX := hX.moved hma); obtain ⟨⟨bx0, bx1, bx2, bx3, bx4⟩, bf0, bf1, bf2, bf3, bf4⟩ := box5 hX.box) | (go_at_call 88; go_must (refine (hah _ _ hX.mov.at_).mono ?_); rintro e wb ⟨rfl, hmb⟩; (replace hX := hX.moved hmb); obtain ⟨⟨bx0, bx1, bx2, bx3, bx4⟩, bf0, bf1, bf2, bf3, bf4⟩ := box5 hX.box) | (go_at_call 91; go_must (refine (hn _ hX.mov.at_).mono ?_); rintro e wc ⟨v1, J, rfl, hOw, hmc, HJ⟩; (replace hX := hX.moved hmc); obtain ⟨⟨bx0, bx1, bx2, bx3, bx4⟩, bf0, bf1, bf2, bf3, bf4⟩ := box5 hX.box) | (go_at_call 90; go_must (refine (yTextC e1 _ v1 xs _ hOw).mono ?_); rintro e wd ⟨k1, t1, rfl, HK, hbd⟩; (replace hX := hX.below hbd); obtain ⟨⟨bx0, bx1, bx2, bx3, bx4⟩, bf0, bf1, bf2, bf3, bf4⟩ := box5 hX.box))
  obtain ⟨hM5, hB5⟩ := hX.fill k1 0 t1
  generalize World.setCell _ _ _ = wf at hB5 hM5 ⊢
  obtain ⟨⟨cx0, cx1, cx2, cx3, cx4⟩, _⟩ := box5 hB5
  refine bodyPost_ret (v := .tuple #[.agg (vc k1 0 t1), errN (textR e1 xs)]) (by simp [results, Tryz.results55, go_sem, cx0, cx1, cx2, cx3, cx4]; try first | exact ⟨rfl, rfl⟩ | rfl) rfl ?_
  refine ⟨k1, 0, t1, none, none, 0, 0, 0, 0, _, rfl, hM5, hid (fun h => ?_)⟩
  obtain ⟨q1, q2⟩ := HK.out h
  obtain ⟨q3, q4⟩ := textR_zero h
  obtain ⟨q5, q6⟩ := HJ.out q3
  subst q1
  subst q2
  exact ⟨q5, q6, repIn_vc _ _ _ _ _ _ (by unfold maxLen; show xs.toArray.size ≤ _; simp; omega)⟩
set_option maxHeartbeats 4000000 in
theorem yvHex (m : Int) (P : Nat) (s : ByteArray) (j p d : Nat) (deep : Int) (w : World) (_hE : Env m P w) (hR : RdAt w P s j) (hj : j ≤ s.size) (hs : s.size ≤ 100000) (hd : 0 ≤ deep ∧ deep ≤ 8) (hp : skipP s j = p) (hpl : p < s.size) (h47 : ¬ s[p] = 47) (h40 : ¬ s[p] = 40) (h60 : s[p] = 60) (h6 : ¬ s.data.toList[p + 1]? = some 60) :
    Calls Tryz.prog 55 #[.pointer (some ⟨P, 0, none⟩), .int .i64 deep] w (Said P w s (d + 1) (hexW s p)) := by
  have hPl : P < w.heap.size := At.lt hR
  have hX := Boxed.new hR
  have hk0 : (0 : Int) ≤ (p : Int) := by omega
  have hk1 : (p : Int) < (s.size : Int) := by omega
  have hd8 : ¬ (8 : Int) < deep := by omega
  have hsk := fun (w : World) (h : RdAt w P s j) => show Calls Tryz.prog 87 #[.pointer (some ⟨P, 0, none⟩)] w fun e w' => e = .returned .nilIface ∧ Moved P w w' s p by
    have q := ySkipOk P s j w h hj hs (by rw [hp]; omega)
    rw [hp] at q; exact q
  have hah := fun (q : ByteArray) (w : World) (h : RdAt w P s p) => yAheadQ P s q p w h (by omega)
  have e47 : ahB s p ⟨#[47]⟩ = false := by rw [ahB_one hpl]; exact decide_eq_false h47
  have e40 : ahB s p ⟨#[40]⟩ = false := by rw [ahB_one hpl]; exact decide_eq_false h40
  have e6060 : ahB s p ⟨#[60, 60]⟩ = false := by rw [ahB_two hpl]; exact decide_eq_false fun h => h6 h.2
  have e60 : ahB s p ⟨#[60]⟩ = true := by rw [ahB_one hpl]; exact decide_eq_true h60
  have hn := fun (w : World) (h : RdAt w P s p) => yHex P s p w h hpl hs
  clear hp
  unfold hexW
  generalize hexTk (s.data.toList.drop (p + 1)) none [] (p + 1) = r at hn ⊢
  obtain ⟨e1, xs, z⟩ := r
  simp only at hn ⊢
  go_enter Tryz.func55, Tryz.ntmps55
  go_wp2_with (first | (go_at_call 87; go_must (refine (hsk _ hX.mov.at_).mono ?_); rintro e wa ⟨rfl, hma⟩; (replace hX := hX.moved hma); obtain ⟨⟨bx0, bx1, bx2, bx3, bx4⟩, bf0, bf1, bf2, bf3, bf4⟩ := box5 hX.box) | (go_at_call 88; go_must (refine (hah _ _ hX.mov.at_).mono ?_); rintro e wb ⟨rfl, hmb⟩; (replace hX := hX.moved hmb); obtain ⟨⟨bx0, bx1, bx2, bx3, bx4⟩, bf0, bf1, bf2, bf3, bf4⟩ := box5 hX.box) | (go_at_call 93; go_must (refine (hn _ hX.mov.at_).mono ?_); rintro e wc ⟨v1, J, rfl, hOw, hmc, HJ⟩; (replace hX := hX.moved hmc); obtain ⟨⟨bx0, bx1, bx2, bx3, bx4⟩, bf0, bf1, bf2, bf3, bf4⟩ := box5 hX.box) | (go_at_call 90; go_must (refine (yTextC e1 _ v1 xs _ hOw).mono ?_); rintro e wd ⟨k1, t1, rfl, HK, hbd⟩; (replace hX := hX.below hbd); obtain ⟨⟨bx0, bx1, bx2, bx3, bx4⟩, bf0, bf1, bf2, bf3, bf4⟩ := box5 hX.box))
  obtain ⟨hM5, hB5⟩ := hX.fill k1 0 t1
  generalize World.setCell _ _ _ = wf at hB5 hM5 ⊢
  obtain ⟨⟨cx0, cx1, cx2, cx3, cx4⟩, _⟩ := box5 hB5
  refine bodyPost_ret (v := .tuple #[.agg (vc k1 0 t1), errN (textR e1 xs)]) (by simp [results, Tryz.results55, go_sem, cx0, cx1, cx2, cx3, cx4]; try first | exact ⟨rfl, rfl⟩ | rfl) rfl ?_
  refine ⟨k1, 0, t1, none, none, 0, 0, 0, 0, _, rfl, hM5, hid (fun h => ?_)⟩
  obtain ⟨q1, q2⟩ := HK.out h
  obtain ⟨q3, q4⟩ := textR_zero h
  obtain ⟨q5, q6⟩ := HJ.out q3
  subst q1
  subst q2
  exact ⟨q5, q6, repIn_vc _ _ _ _ _ _ (by unfold maxLen; show xs.toArray.size ≤ _; simp; omega)⟩
set_option maxHeartbeats 4000000 in
theorem yvList (m : Int) (P : Nat) (s : ByteArray) (j p d : Nat) (deep : Int) (w : World) (hE : Env m P w) (hR : RdAt w P s j) (hj : j ≤ s.size) (hs : s.size ≤ 100000) (hd : 0 ≤ deep ∧ deep ≤ 8) (hp : skipP s j = p) (hpl : p < s.size) (h47 : ¬ s[p] = 47) (h40 : ¬ s[p] = 40) (h60 : ¬ s[p] = 60) (h91 : s[p] = 91) (f : Nat → Rd)
    (hval : ∀ (w : World) (j : Nat), Env m P w → RdAt w P s j → j ≤ s.size → Calls Tryz.prog 55 #[.pointer (some ⟨P, 0, none⟩), .int .i64 (deep + 1)] w (Said P w s d (f j))) :
    Calls Tryz.prog 55 #[.pointer (some ⟨P, 0, none⟩), .int .i64 deep] w (Said P w s (d + 1) (listV f s p)) := by
  have hPl : P < w.heap.size := At.lt hR
  have hX := Boxed.new hR
  have hk0 : (0 : Int) ≤ (p : Int) := by omega
  have hk1 : (p : Int) < (s.size : Int) := by omega
  have hd8 : ¬ (8 : Int) < deep := by omega
  have hsk := fun (w : World) (h : RdAt w P s j) => show Calls Tryz.prog 87 #[.pointer (some ⟨P, 0, none⟩)] w fun e w' => e = .returned .nilIface ∧ Moved P w w' s p by
    have q := ySkipOk P s j w h hj hs (by rw [hp]; omega)
    rw [hp] at q; exact q
  have hah := fun (q : ByteArray) (w : World) (h : RdAt w P s p) => yAheadQ P s q p w h (by omega)
  have e47 : ahB s p ⟨#[47]⟩ = false := by rw [ahB_one hpl]; exact decide_eq_false h47
  have e40 : ahB s p ⟨#[40]⟩ = false := by rw [ahB_one hpl]; exact decide_eq_false h40
  have e6060 : ahB s p ⟨#[60, 60]⟩ = false := by rw [ahB_two hpl]; exact decide_eq_false fun h => h60 h.1
  have e60 : ahB s p ⟨#[60]⟩ = false := by rw [ahB_one hpl]; exact decide_eq_false h60
  have e91 : ahB s p ⟨#[91]⟩ = true := by rw [ahB_one hpl]; exact decide_eq_true h91
  have hn := fun (w : World) (h1 : Env m P w) (h : RdAt w P s p) => yList m P s p d deep f w h1 h hpl hs hd hval
  clear hp hval
  unfold listV
  generalize rdL f s 302 [] (p + 1) = r at hn ⊢
  obtain ⟨r1, e1, z1⟩ := r
  unfold Said at hn
  simp only at hn ⊢
  go_enter Tryz.func55, Tryz.ntmps55
  go_wp2_with (first | (go_at_call 87; go_must (refine (hsk _ hX.mov.at_).mono ?_); rintro e wa ⟨rfl, hma⟩; (replace hX := hX.moved hma); obtain ⟨⟨bx0, bx1, bx2, bx3, bx4⟩, bf0, bf1, bf2, bf3, bf4⟩ := box5 hX.box) | (go_at_call 88; go_must (refine (hah _ _ hX.mov.at_).mono ?_); rintro e wb ⟨rfl, hmb⟩; (replace hX := hX.moved hmb); obtain ⟨⟨bx0, bx1, bx2, bx3, bx4⟩, bf0, bf1, bf2, bf3, bf4⟩ := box5 hX.box) | (go_at_call 94; go_must (refine (hn _ (hX.env hE) hX.mov.at_).mono ?_); rintro e wc ⟨k1, n1, t1, a1, a2, l1, c1, l2, c2, J, rfl, hmc, HQ⟩; (have HLX := hid (At.lt hX.box)); (replace hX := hX.moved hmc); obtain ⟨⟨bx0, bx1, bx2, bx3, bx4⟩, bf0, bf1, bf2, bf3, bf4⟩ := box5 hX.box))
  obtain ⟨hM5, hB5, hS5, hO5⟩ := hX.fill5 (.int .i64 k1) (.int .i64 n1) (.string t1) (.slice a1 l1 c1) (.slice a2 l2 c2) rfl
  unfold set5 at hM5 hB5 hS5 hO5
  generalize World.setCell _ _ _ = wf at hM5 hB5 hS5 hO5 ⊢
  obtain ⟨⟨cx0, cx1, cx2, cx3, cx4⟩, _⟩ := five_cells hB5
  refine bodyPost_ret (v := .tuple #[.agg #[.int .i64 k1, .int .i64 n1, .string t1, .slice a1 l1 c1, .slice a2 l2 c2], errN e1]) (by simp [results, Tryz.results55, go_sem, cx0, cx1, cx2, cx3, cx4]; try first | exact ⟨rfl, rfl⟩ | rfl) rfl ?_
  refine ⟨k1, n1, t1, a1, a2, l1, c1, l2, c2, J, rfl, hM5, hid (fun h => ?_)⟩
  obtain ⟨q1, q2, q3⟩ := HQ.out h
  exact ⟨q1, q2, repIn_boxed hS5 hO5 HLX.out q3⟩
set_option maxHeartbeats 4000000 in
theorem yvDict (m : Int) (P : Nat) (s : ByteArray) (j p d : Nat) (deep : Int) (w : World) (hE : Env m P w) (hR : RdAt w P s j) (hj : j ≤ s.size) (hs : s.size ≤ 100000) (hd : 0 ≤ deep ∧ deep ≤ 8) (hp : skipP s j = p) (hpl : p < s.size) (h47 : ¬ s[p] = 47) (h40 : ¬ s[p] = 40) (h60 : s[p] = 60) (h6 : s.data.toList[p + 1]? = some 60) (f : Nat → Rd)
    (hval : ∀ (w : World) (j : Nat), Env m P w → RdAt w P s j → j ≤ s.size → Calls Tryz.prog 55 #[.pointer (some ⟨P, 0, none⟩), .int .i64 (deep + 1)] w (Said P w s d (f j))) :
    Calls Tryz.prog 55 #[.pointer (some ⟨P, 0, none⟩), .int .i64 deep] w (Said P w s (d + 1) (dictV f s p)) := by
  have hPl : P < w.heap.size := At.lt hR
  have hX := Boxed.new hR
  have hk0 : (0 : Int) ≤ (p : Int) := by omega
  have hk1 : (p : Int) < (s.size : Int) := by omega
  have hd8 : ¬ (8 : Int) < deep := by omega
  have hsk := fun (w : World) (h : RdAt w P s j) => show Calls Tryz.prog 87 #[.pointer (some ⟨P, 0, none⟩)] w fun e w' => e = .returned .nilIface ∧ Moved P w w' s p by
    have q := ySkipOk P s j w h hj hs (by rw [hp]; omega)
    rw [hp] at q; exact q
  have hah := fun (q : ByteArray) (w : World) (h : RdAt w P s p) => yAheadQ P s q p w h (by omega)
  have e47 : ahB s p ⟨#[47]⟩ = false := by rw [ahB_one hpl]; exact decide_eq_false h47
  have e40 : ahB s p ⟨#[40]⟩ = false := by rw [ahB_one hpl]; exact decide_eq_false h40
  have e6060 : ahB s p ⟨#[60, 60]⟩ = true := by rw [ahB_two hpl]; exact decide_eq_true ⟨h60, h6⟩
  have h2 : p + 2 ≤ s.size := by
    have := (List.getElem?_eq_some_iff.1 h6).1
    simp at this; omega
  have hn := fun (w : World) (h1 : Env m P w) (h : RdAt w P s p) => yDict m P s p d deep f w h1 h h2 hs hd hval
  clear hp hval
  unfold dictV
  generalize rdD f s 302 [] (p + 2) = r at hn ⊢
  obtain ⟨r1, e1, z1⟩ := r
  unfold Said at hn
  simp only at hn ⊢
  go_enter Tryz.func55, Tryz.ntmps55
  go_wp2_with (first | (go_at_call 87; go_must (refine (hsk _ hX.mov.at_).mono ?_); rintro e wa ⟨rfl, hma⟩; (replace hX := hX.moved hma); obtain ⟨⟨bx0, bx1, bx2, bx3, bx4⟩, bf0, bf1, bf2, bf3, bf4⟩ := box5 hX.box) | (go_at_call 88; go_must (refine (hah _ _ hX.mov.at_).mono ?_); rintro e wb ⟨rfl, hmb⟩; (replace hX := hX.moved hmb); obtain ⟨⟨bx0, bx1, bx2, bx3, bx4⟩, bf0, bf1, bf2, bf3, bf4⟩ := box5 hX.box) | (go_at_call 92; go_must (refine (hn _ (hX.env hE) hX.mov.at_).mono ?_); rintro e wc ⟨k1, n1, t1, a1, a2, l1, c1, l2, c2, J, rfl, hmc, HQ⟩; (have HLX := hid (At.lt hX.box)); (replace hX := hX.moved hmc); obtain ⟨⟨bx0, bx1, bx2, bx3, bx4⟩, bf0, bf1, bf2, bf3, bf4⟩ := box5 hX.box))
  obtain ⟨hM5, hB5, hS5, hO5⟩ := hX.fill5 (.int .i64 k1) (.int .i64 n1) (.string t1) (.slice a1 l1 c1) (.slice a2 l2 c2) rfl
  unfold set5 at hM5 hB5 hS5 hO5
  generalize World.setCell _ _ _ = wf at hM5 hB5 hS5 hO5 ⊢
  obtain ⟨⟨cx0, cx1, cx2, cx3, cx4⟩, _⟩ := five_cells hB5
  refine bodyPost_ret (v := .tuple #[.agg #[.int .i64 k1, .int .i64 n1, .string t1, .slice a1 l1 c1, .slice a2 l2 c2], errN e1]) (by simp [results, Tryz.results55, go_sem, cx0, cx1, cx2, cx3, cx4]; try first | exact ⟨rfl, rfl⟩ | rfl) rfl ?_
  refine ⟨k1, n1, t1, a1, a2, l1, c1, l2, c2, J, rfl, hM5, hid (fun h => ?_)⟩
  obtain ⟨q1, q2, q3⟩ := HQ.out h
  exact ⟨q1, q2, repIn_boxed hS5 hO5 HLX.out q3⟩
set_option maxHeartbeats 4000000 in
theorem yvSign (m : Int) (P : Nat) (s : ByteArray) (j p d : Nat) (deep : Int) (w : World) (_hE : Env m P w) (hR : RdAt w P s j) (hj : j ≤ s.size) (hs : s.size ≤ 100000) (hd : 0 ≤ deep ∧ deep ≤ 8) (hp : skipP s j = p) (hpl : p < s.size) (h47 : ¬ s[p] = 47) (h40 : ¬ s[p] = 40) (h60 : ¬ s[p] = 60) (h91 : ¬ s[p] = 91) (hsn : isSg s[p] = true) :
    Calls Tryz.prog 55 #[.pointer (some ⟨P, 0, none⟩), .int .i64 deep] w (Said P w s (d + 1) (V0 0 0 eB, 4, p)) := by
  have hPl : P < w.heap.size := At.lt hR
  have hX := Boxed.new hR
  have hk0 : (0 : Int) ≤ (p : Int) := by omega
  have hk1 : (p : Int) < (s.size : Int) := by omega
  have hd8 : ¬ (8 : Int) < deep := by omega
  have hsk := fun (w : World) (h : RdAt w P s j) => show Calls Tryz.prog 87 #[.pointer (some ⟨P, 0, none⟩)] w fun e w' => e = .returned .nilIface ∧ Moved P w w' s p by
    have q := ySkipOk P s j w h hj hs (by rw [hp]; omega)
    rw [hp] at q; exact q
  have hah := fun (q : ByteArray) (w : World) (h : RdAt w P s p) => yAheadQ P s q p w h (by omega)
  have e47 : ahB s p ⟨#[47]⟩ = false := by rw [ahB_one hpl]; exact decide_eq_false h47
  have e40 : ahB s p ⟨#[40]⟩ = false := by rw [ahB_one hpl]; exact decide_eq_false h40
  have e6060 : ahB s p ⟨#[60, 60]⟩ = false := by rw [ahB_two hpl]; exact decide_eq_false fun h => h60 h.1
  have e60 : ahB s p ⟨#[60]⟩ = false := by rw [ahB_one hpl]; exact decide_eq_false h60
  have e91 : ahB s p ⟨#[91]⟩ = false := by rw [ahB_one hpl]; exact decide_eq_false h91
  have hsg := fun (w : World) => show Calls Tryz.prog 79 #[.int .u8 (s[p].toNat : Int)] w fun e w' => e = .returned (.bool true) ∧ w' = w by
    have q := pSign s[p] w
    rw [hsn] at q; exact q
  clear hp
  go_enter Tryz.func55, Tryz.ntmps55
  go_wp2_with (first | (go_at_call 87; go_must (refine (hsk _ hX.mov.at_).mono ?_); rintro e wa ⟨rfl, hma⟩; (replace hX := hX.moved hma); obtain ⟨⟨bx0, bx1, bx2, bx3, bx4⟩, bf0, bf1, bf2, bf3, bf4⟩ := box5 hX.box) | (go_at_call 88; go_must (refine (hah _ _ hX.mov.at_).mono ?_); rintro e wb ⟨rfl, hmb⟩; (replace hX := hX.moved hmb); obtain ⟨⟨bx0, bx1, bx2, bx3, bx4⟩, bf0, bf1, bf2, bf3, bf4⟩ := box5 hX.box; (have rc0 := hX.mov.at_.c0); (have rc1 := hX.mov.at_.c1)))
  go_quiet ((go_at_call 79; exact Calls.quiet_of_same (hsg _)))
  go_wp2
  (replace hX := hX.below (bel_drewN _ nq))
  obtain ⟨hM5, hB5⟩ := hX.fill 0 0 ⟨#[]⟩
  generalize World.setCell _ _ _ = wf at hB5 hM5 ⊢
  obtain ⟨⟨cx0, cx1, cx2, cx3, cx4⟩, _⟩ := box5 hB5
  refine bodyPost_ret (v := .tuple #[.agg (vc 0 0 ⟨#[]⟩), .iface 50 (.int .i64 4)]) (by simp [results, Tryz.results55, go_sem, cx0, cx1, cx2, cx3, cx4]; try first | exact ⟨rfl, rfl⟩ | rfl) rfl ?_
  exact ⟨0, 0, ⟨#[]⟩, none, none, 0, 0, 0, 0, _, rfl, hM5, hid (fun h => absurd (show (4 : Int) = 0 from h) (by decide))⟩
set_option maxHeartbeats 4000000 in
theorem yvOther (m : Int) (P : Nat) (s : ByteArray) (j p d : Nat) (deep : Int) (w : World) (hE : Env m P w) (hR : RdAt w P s j) (hj : j ≤ s.size) (hs : s.size ≤ 100000) (hd : 0 ≤ deep ∧ deep ≤ 8) (hp : skipP s j = p) (hpl : p < s.size) (h47 : ¬ s[p] = 47) (h40 : ¬ s[p] = 40) (h60 : ¬ s[p] = 60) (h91 : ¬ s[p] = 91) (hsn : isSg s[p] = false) :
    Calls Tryz.prog 55 #[.pointer (some ⟨P, 0, none⟩), .int .i64 deep] w (Said P w s (d + 1) (otherV s p)) := by
  have hPl : P < w.heap.size := At.lt hR
  have hX := Boxed.new hR
  have hk0 : (0 : Int) ≤ (p : Int) := by omega
  have hk1 : (p : Int) < (s.size : Int) := by omega
  have hd8 : ¬ (8 : Int) < deep := by omega
  have hsk := fun (w : World) (h : RdAt w P s j) => show Calls Tryz.prog 87 #[.pointer (some ⟨P, 0, none⟩)] w fun e w' => e = .returned .nilIface ∧ Moved P w w' s p by
    have q := ySkipOk P s j w h hj hs (by rw [hp]; omega)
    rw [hp] at q; exact q
  have hah := fun (q : ByteArray) (w : World) (h : RdAt w P s p) => yAheadQ P s q p w h (by omega)
  have e47 : ahB s p ⟨#[47]⟩ = false := by rw [ahB_one hpl]; exact decide_eq_false h47
  have e40 : ahB s p ⟨#[40]⟩ = false := by rw [ahB_one hpl]; exact decide_eq_false h40
  have e6060 : ahB s p ⟨#[60, 60]⟩ = false := by rw [ahB_two hpl]; exact decide_eq_false fun h => h60 h.1
  have e60 : ahB s p ⟨#[60]⟩ = false := by rw [ahB_one hpl]; exact decide_eq_false h60
  have e91 : ahB s p ⟨#[91]⟩ = false := by rw [ahB_one hpl]; exact decide_eq_false h91
  have hsg := fun (w : World) => show Calls Tryz.prog 79 #[.int .u8 (s[p].toNat : Int)] w fun e w' => e = .returned (.bool false) ∧ w' = w by
    have q := pSign s[p] w
    rw [hsn] at q; exact q
  have hn := fun (w : World) (h1 : Env m P w) (h : RdAt w P s p) => yOther m P s p w h1 h (by omega) hs
  have HLE := hid (otherK_le (s := s) (k := p) (by omega))
  clear hp
  unfold otherV
  generalize otherK s p = r at hn HLE ⊢
  obtain ⟨k1, n1, e1, z1⟩ := r
  simp only at hn HLE ⊢
  unfold vc at hn
  go_enter Tryz.func55, Tryz.ntmps55
  go_wp2_with (first | (go_at_call 87; go_must (refine (hsk _ hX.mov.at_).mono ?_); rintro e wa ⟨rfl, hma⟩; (replace hX := hX.moved hma); obtain ⟨⟨bx0, bx1, bx2, bx3, bx4⟩, bf0, bf1, bf2, bf3, bf4⟩ := box5 hX.box) | (go_at_call 88; go_must (refine (hah _ _ hX.mov.at_).mono ?_); rintro e wb ⟨rfl, hmb⟩; (replace hX := hX.moved hmb); obtain ⟨⟨bx0, bx1, bx2, bx3, bx4⟩, bf0, bf1, bf2, bf3, bf4⟩ := box5 hX.box; (have rc0 := hX.mov.at_.c0); (have rc1 := hX.mov.at_.c1)))
  go_quiet ((go_at_call 79; exact Calls.quiet_of_same (hsg _)))
  (replace hX := hX.below (bel_drewN _ nq))
  go_wp2_with ((go_at_call 95; go_must (refine (hn _ (hX.env hE) hX.mov.at_).mono ?_); rintro e wc ⟨rfl, hmc⟩; (replace hX := hX.moved hmc); obtain ⟨⟨bx0, bx1, bx2, bx3, bx4⟩, bf0, bf1, bf2, bf3, bf4⟩ := box5 hX.box))
  obtain ⟨hM5, hB5⟩ := hX.fill k1 n1 eB
  generalize World.setCell _ _ _ = wf at hB5 hM5 ⊢
  obtain ⟨⟨cx0, cx1, cx2, cx3, cx4⟩, _⟩ := box5 hB5
  refine bodyPost_ret (v := .tuple #[.agg (vc k1 n1 eB), errN e1]) (by simp [results, Tryz.results55, go_sem, cx0, cx1, cx2, cx3, cx4]; try first | exact ⟨rfl, rfl⟩ | rfl) rfl ?_
  exact ⟨k1, n1, eB, none, none, 0, 0, 0, 0, _, rfl, hM5, hid (fun h => ⟨rfl, HLE.out, repIn_vc _ _ _ _ _ _ (by decide)⟩)⟩
end Go.Proofs.YtflcibmjblioaaaGreatDoor
