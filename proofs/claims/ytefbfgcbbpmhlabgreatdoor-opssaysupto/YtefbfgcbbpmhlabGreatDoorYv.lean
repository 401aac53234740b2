/-
  Joined: Yu, Yua, Yv.
-/
import Derived.Test.YtefbfgcbbpmhlabGreatDoorYs

/-
  The program's reader: dictionaries.
-/
namespace Go.Proofs.YtefbfgcbbpmhlabGreatDoor
open Go.RowKit
set_option maxRecDepth 100000

def lenAt4 (b : Nat) (w : World) : Nat := match w.cell? ⟨b, 4, none⟩ with | some (.slice _ n _) => n | _ => 0
theorem lenAt4_at {w : World} {b : Nat} {T : TypeId} {v0 v1 v2 v3 : Value} {a : Option Addr} {n c : Nat} (h : At w b T #[v0, v1, v2, v3, .slice a n c]) : lenAt4 b w = n := by
  have h3 : w.cell? ⟨b, 4, none⟩ = some (.slice a n c) := At.cell h 4
  unfold lenAt4; rw [h3]
theorem own_slice6 {w : World} {B : Nat} {t : Value} {n : Nat} {xs : List Value} (h : w.ownsRow B 91 6 t n xs) : ∃ a c, t = .slice a n c := by
  rcases h.2 with ⟨rfl, h0⟩ | ⟨g, cap, cur, rfl, _⟩
  · exact ⟨none, 0, by rw [h0]⟩
  · exact ⟨_, cap, rfl⟩
theorem endsR_to2 {s : ByteArray} {k : Nat} (hk : k ≤ s.size) {x : Int} {y : Bool} {z : Nat} (h : endsR s wEnd2 k = (x, y, z)) : z ≤ s.size := by
  have hl := skipP_le hk
  unfold endsR at h
  split at h
  · injection h with h1 h2; injection h2 with _ h3; omega
  · split at h
    · rename_i hp
      have h4 : wEnd2.data.toList.length ≤ (s.data.toList.drop (skipP s k)).length := by
        have : wEnd2.data.toList <+: s.data.toList.drop (skipP s k) := List.isPrefixOf_iff_prefix.1 hp
        exact this.length_le
      have h5 : wEnd2.data.toList.length = 2 := rfl
      have h6 : wEnd2.size = 2 := rfl
      rw [List.length_drop] at h4
      simp only [Array.length_toList, ByteArray.size_data] at h4
      injection h with _ h2; injection h2 with _ h3; omega
    · injection h with _ h2; injection h2 with _ h3; omega
theorem endsR_lt {s p : ByteArray} {k : Nat} (hk : k ≤ s.size) {z : Nat} (h : endsR s p k = (0, false, z)) : z < s.size := by
  have hl := skipP_le hk
  unfold endsR at h
  split at h
  · injection h with h1 h2; exact absurd h1 (by decide)
  · split at h
    · injection h with _ h2; injection h2 with h3 _; cases h3
    · rename_i h0 _
      injection h with _ h2; injection h2 with _ h3; omega
theorem Dicted.vkept {P : Nat} {w b w2 : World} {s : ByteArray} {i d : Nat} {t : Value} {O : List FC} (h : Dicted P w b s i d t O) (hg : b.grownBy w2 t.ownBlock) :
    At w2 (w.heap.size + 1) 26 #[.int .i64 6, .int .i64 0, .string ⟨#[]⟩, .slice none 0 0, t] ∧ At w2 w.heap.size 26 (vc 0 0 ⟨#[]⟩) := by
  have hs := h.size
  have same : ∀ k, k < w.heap.size + 2 → w2.heap[k]? = b.heap[k]? := fun k hk =>
    hg.block k (by omega) (fun e => by have := (h.own.lt k e.symm).1; omega)
  exact ⟨(same _ (by omega)).trans h.vbox, (same _ (by omega)).trans h.box⟩
/-- The search, where the fields lie in a row that the reader owns. -/
theorem dSearch {P : Nat} {w a : World} {s : ByteArray} {j d : Nat} {al : Option Addr} {cl : Nat} {O : List FC} (name : ByteArray) (y1 y2 y3 y4 y5 : Value) (r : Bool) (hO : O.length ≤ 300) (hp : (O.map (·.1)).Pairwise fun p q => Lt p.1 q.1) (hr : (getF name (O.map (·.1))).isSome = r) (h1 : ∀ u ∈ [y1, y2, y3, y4, y5], u.oneCell' = true)
    (h : Dicted P w a s j d (.slice al O.length cl) O) :
    Calls Tryz.prog 270 #[.slice al O.length cl, .agg #[.string name, y1, y2, y3, y4, y5], .func (.func 271) #[] #[]] a fun e w' => (∃ t : Nat, e = .returned (.tuple #[.int .i64 (t : Nat), .bool r]) ∧ Hid (FoundAt name (O.map (·.1)) t r)) ∧ Below a.heap.size a w' := by
  obtain ⟨af, cf, he, hF⟩ := h.slice
  cases he
  have q := search_says (w := a) name y1 y2 y3 y4 y5 (O.map (·.1)) al cl (by simp; omega) hF hp h1
  rw [List.length_map] at q
  refine q.mono ?_
  rintro e w' ⟨⟨t, b, rfl, hf⟩, hb⟩
  have := hf.getF hp
  rw [hr] at this
  subst this
  exact ⟨⟨t, rfl, hid hf⟩, hb⟩
/-- The row with a field laid in. -/
theorem ins_flat {O : List FC} {t : Nat} {o : FC} {d : Nat} {w : World} (hk : ∀ o ∈ O, o.ok d w) : (flatO O).take (t * 6) ++ o.cells ++ (flatO O).drop (t * 6) = flatO (O.take t ++ o :: O.drop t) := by
  rw [flatO_takeL t fun o ho => FC.len (hk o ho), flatO_dropL t fun o ho => FC.len (hk o ho), flatO_append, show flatO (o :: O.drop t) = o.cells ++ flatO (O.drop t) from by simp [flatO], List.append_assoc]
theorem flat_ones {O : List FC} {d : Nat} {w : World} (hk : ∀ o ∈ O, o.ok d w) : ∀ u ∈ flatO O, u.oneCell' = true := by
  intro u hu
  obtain ⟨o, ho, hu⟩ := List.mem_flatMap.1 hu
  rcases List.mem_cons.1 hu with rfl | hu
  · rfl
  · have := rep_ones (hk o ho).2
    simp only [List.all_toArray, List.all_eq_true] at this
    exact this u hu
/-- The row takes a field in. -/
theorem dInsert {P : Nat} {w a : World} {s : ByteArray} {j d : Nat} {al : Option Addr} {cl t : Nat} {O : List FC} (x : V) (name : ByteArray) (y1 y2 y3 y4 y5 : Value) (hO : O.length ≤ 300) (ht : t ≤ O.length) (h1 : ∀ u ∈ [y1, y2, y3, y4, y5], u.oneCell' = true)
    (h : Dicted P w a s j d (.slice al O.length cl) O) (hx : name.size ≤ 200 ∧ RepIn (Room (w.heap.size + 2) a (.slice al O.length cl)) d a x [y1, y2, y3, y4, y5]) :
    Calls Tryz.prog 95 #[.slice al O.length cl, .int .i64 (t : Nat), .slice (some ⟨a.heap.size, 0, none⟩) 1 1] (a.alloc (.cells #[.string name, y1, y2, y3, y4, y5] 91)) fun e w2 => ∃ a' c', e = .returned (.slice a' (O.length + 1) c') ∧
      At w2 (w.heap.size + 1) 26 #[.int .i64 6, .int .i64 0, .string ⟨#[]⟩, .slice none 0 0, .slice al O.length cl] ∧ At w2 w.heap.size 26 (vc 0 0 ⟨#[]⟩) ∧
      Hid (Dicted P w (w2.setCell ⟨w.heap.size + 1, 4, none⟩ (.slice a' (O.length + 1) c')) s j d (.slice a' (O.length + 1) c') (O.take t ++ ((name, x), [y1, y2, y3, y4, y5]) :: O.drop t)) := by
  have hA := h.below (below_box a (.cells #[.string name, y1, y2, y3, y4, y5] 91))
  have hx' := hx.2
  have hsz := h.size
  refine (insertAt_says (i := t) hA.own (by have := hA.size; omega) (by omega) ht a.heap.size (.string name) y1 y2 y3 y4 y5 (At.new a _ _ rfl) (fun e => by have := (h.own.lt _ e).2; omega) (fun u hu => by
    rcases List.mem_cons.1 hu with rfl | hu
    · rfl
    · exact h1 u hu) (flat_ones hA.ok)).mono ?_
  rintro e w2 ⟨v', rfl, hown, hg, hat⟩
  obtain ⟨a', c', rfl⟩ := own_slice6 hown
  have hl : (O.take t ++ ((name, x), [y1, y2, y3, y4, y5]) :: O.drop t).length = O.length + 1 := by simp; omega
  have hfl := ins_flat (t := t) (o := ((name, x), [y1, y2, y3, y4, y5])) hA.ok
  have e6 : FC.cells ((name, x), [y1, y2, y3, y4, y5]) = [.string name, y1, y2, y3, y4, y5] := rfl
  rw [e6] at hfl
  rw [hfl] at hown
  have hown' : w2.ownsRow (w.heap.size + 2) 91 6 (.slice a' (O.length + 1) c') (O.take t ++ ((name, x), [y1, y2, y3, y4, y5]) :: O.drop t).length (flatO (O.take t ++ ((name, x), [y1, y2, y3, y4, y5]) :: O.drop t)) := by rw [hl]; exact hown
  obtain ⟨k1, k2⟩ := hA.vkept hg
  refine ⟨a', c', rfl, k1, k2, hid ?_⟩
  have g := hA.grow (o := ((name, x), [y1, y2, y3, y4, y5])) (O' := O.take t ++ ((name, x), [y1, y2, y3, y4, y5]) :: O.drop t) ⟨hx.1, (hx'.agree (by simp) fun k hk => heap_alloc_old _ _ hk.2.1).mono fun k hk => ⟨hk.1, by have := hk.2.1; simp; omega, hk.2.2⟩⟩ (fun p hp => by
    rcases List.mem_append.1 hp with h1 | h1
    · exact .inl (List.mem_of_mem_take h1)
    · rcases List.mem_cons.1 h1 with rfl | h1
      · exact .inr rfl
      · exact .inl (List.mem_of_mem_drop h1)) hown' hg hat
  exact g
end Go.Proofs.YtefbfgcbbpmhlabGreatDoor

/-
  The program's reader: dictionaries, whole.
-/
namespace Go.Proofs.YtefbfgcbbpmhlabGreatDoor
open Go.RowKit
set_option maxRecDepth 100000

set_option maxHeartbeats 8000000 in
theorem yDict (m : Int) (P : Nat) (s : ByteArray) (k d : Nat) (deep : Int) (f : Nat → Rd) (w : World) (hE : Env m P w) (hR : RdAt w P s k) (hk : k + 2 ≤ s.size) (hs : s.size ≤ 100000) (hd : 0 ≤ deep ∧ deep ≤ 8)
    (hval : ∀ (w : World) (j : Nat), Env m P w → RdAt w P s j → j ≤ s.size → Calls Tryz.prog 140 #[.pointer (some ⟨P, 0, none⟩), .int .i64 (deep + 1)] w (Said P w s d (f j))) :
    Calls Tryz.prog 201 #[.pointer (some ⟨P, 0, none⟩), .int .i64 deep] w (Said P w s (d + 1) (⟨6, 0, eB, [], (rdD f s 302 [] (k + 2)).1⟩, (rdD f s 302 [] (k + 2)).2.1, (rdD f s 302 [] (k + 2)).2.2)) := by
  have hPl : P < w.heap.size := At.lt hR
  have c1 := hR.c1
  have f1 := At.free hR 1
  have hm0 := (Moved.refl hR).set (i := (k : Int) + 2) (j := k + 2) (by omega)
  obtain ⟨R, hRR⟩ : ∃ R, rdD f s 302 [] (k + 2) = R := ⟨_, rfl⟩
  rw [hRR]
  have HR0 := hid hRR
  clear hRR
  have HV := hid hval
  clear hval
  go_enter Tryz.func201, Tryz.ntmps201
  go_wp2
  go_loopw [7] (fun _ wr => ∃ (j : Nat) (t : Value) (O : List FC), j ≤ s.size ∧ O.length ≤ 300 ∧ Hid ((O.map (·.1)).Pairwise fun p q => Lt p.1 q.1) ∧ rdD f s (302 - O.length) (O.map (·.1)) j = R ∧ Dicted P w wr s j d t O) (fun _ wr => 302 - lenAt4 (w.heap.size + 1) wr)
  case atStart =>
    refine ⟨k + 2, .slice none 0 0, [], by omega, by simp, hid List.Pairwise.nil, HR0.out, ?_, hPl, ?_, ?_, World.ownsRow_nil _ _ _ _, by simp⟩
    · exact (hm0.below hPl ((Below.refl _ _).alloc (by simp [World.setCell]) _)).below hPl ((Below.refl _ _).alloc (by simp [World.setCell]) _)
    · exact (At.new _ _ _ (by simp [World.setCell])).alloc _
    · exact At.new _ _ _ (by simp [World.setCell])
  case round =>
    clear HR0 hm0 c1 f1
    obtain ⟨j, t, O, hj, hO, HP, hT, hW⟩ := hrel
    have HT := hid hT
    clear hT
    have hWs := hW.size
    obtain ⟨a, c, rfl⟩ := own_slice6 hW.own
    obtain ⟨ex, ey, ez, hes⟩ : ∃ x y z, endsR s wEnd2 j = (x, y, z) := ⟨_, _, _, rfl⟩
    have hez := endsR_to2 hj hes
    have HU := hid (show (if ex ≠ 0 then ([], ex, j) else if ey then (O.map (·.1), 0, ez) else if (rdFd f s ez).2.1 ≠ 0 then ([], (rdFd f s ez).2.1, j) else if (getF (rdFd f s ez).1.1 (O.map (·.1))).isSome then ([], 3, j) else if 300 < (O.map (·.1)).length + 1 then ([], 2, j) else rdD f s (302 - O.length - 1) (rsetF (rdFd f s ez).1.1 (rdFd f s ez).1.2 (O.map (·.1)) false) (rdFd f s ez).2.2) = R by
      rw [← HT.out, show 302 - O.length = 302 - O.length - 1 + 1 by omega, rdD_step hes]; rfl)
    clear HT
    have hends := fun (w : World) (h : RdAt w P s j) => yEndsN P s wEnd2 j w h hj hs (by decide) hes
    have HES := hid hes
    clear hes
    by_cases hx : ex = 0
    · subst hx
      rw [errN_0] at hends
      cases ey
      · have HU2 := hid (show (if (rdFd f s ez).2.1 ≠ 0 then ([], (rdFd f s ez).2.1, j) else if (getF (rdFd f s ez).1.1 (O.map (·.1))).isSome then ([], 3, j) else if 300 < (O.map (·.1)).length + 1 then ([], 2, j) else rdD f s (302 - O.length - 1) (rsetF (rdFd f s ez).1.1 (rdFd f s ez).1.2 (O.map (·.1)) false) (rdFd f s ez).2.2) = R by have h := HU.out; rw [if_neg (by simp), if_neg (by simp)] at h; exact h)
        clear HU
        have hv := fun (w : World) (h1 : Env m P w) (h2 : RdAt w P s ez) => yField m P s ez d (deep + 1) f w h1 h2 (endsR_lt hj HES.out) hs HV.out
        have HNM := hid (rdFd_name (f := f) (s := s) (k := ez))
        generalize rdFd f s ez = r at hv HU2 HNM
        obtain ⟨⟨nm, x⟩, e1, z1⟩ := r
        unfold SaidF at hv
        unfold wEnd2 at hends
        simp only at hv
        by_cases he : e1 = 0
        · subst he
          rw [errN_0] at hv
          have HNS := hid (nmOk_size (HNM.out rfl))
          cases hg : (getF nm (O.map (·.1))).isSome
          · have HG := hid hg
            by_cases hmany : O.length + 1 ≤ 300
            · have hm' : ¬ ((300 : Int) < (O.length : Int) + 1) := by omega
              have HRN := hid (show rdD f s (302 - O.length - 1) (rsetF nm x (O.map (·.1)) false) z1 = R by have h := HU2.out; rw [if_neg (by simp), if_neg (by simp only; rw [hg]; simp), if_neg (by simp; omega)] at h; exact h)
              clear HU2 hg
              go_wp2_with (first | (go_at_call 268; go_must (refine (hends _ hW.mov.at_).mono ?_); rintro e w1 ⟨rfl, hm1⟩; (have hW1 := hW.moved hm1); obtain ⟨⟨bx0, bx1, bx2, bx3, bx4⟩, fx0, fx1, fx2, fx3, fx4⟩ := five_cells hW1.box; obtain ⟨⟨vx0, vx1, vx2, vx3, vx4⟩, fv⟩ := hW1.cells) | (go_at_call 269; go_must (refine (hv _ (hW1.env hE) hm1.at_).mono ?_); rintro e w2 ⟨nm1, k1, n1, t1, a1, a2, l1, c1, l2, c2, J, rfl, hm2, HQ⟩; (have hW2 := hW1.moved hm2); (have hz2 := hW2.size); (have hWa := hW2.below (below_box w2 (.cells #[.string nm1, .int .i64 k1, .int .i64 n1, .string t1, .slice a1 l1 c1, .slice a2 l2 c2] 91))); obtain ⟨⟨by0, by1, by2, by3, by4⟩, fy0, fy1, fy2, fy3, fy4⟩ := five_cells hW2.box; obtain ⟨⟨vy0, vy1, vy2, vy3, vy4⟩, fvy⟩ := hW2.cells; obtain ⟨⟨ba0, ba1, ba2, ba3, ba4⟩, fa0, fa1, fa2, fa3, fa4⟩ := five_cells hWa.box; obtain ⟨⟨va0, va1, va2, va3, va4⟩, fva⟩ := hWa.cells) | (go_at_call 270; obtain ⟨hJ, hJs, hNm, hRep⟩ := HQ.out (by first | trivial | rfl); subst hNm; go_must (refine (dSearch nm1 _ _ _ _ _ false hO HP.out HG.out (by simp [Value.oneCell']) hWa).mono ?_); rintro e w3 ⟨⟨tt, rfl, HFND⟩, hb3⟩; (have hW3 := hWa.below hb3); obtain ⟨⟨bb0, bb1, bb2, bb3, bb4⟩, fb0, fb1, fb2, fb3, fb4⟩ := five_cells hW3.box; obtain ⟨⟨vb0, vb1, vb2, vb3, vb4⟩, fvb⟩ := hW3.cells; (have hFb := At.later (At.new w2 #[.string nm1, .int .i64 k1, .int .i64 n1, .string t1, .slice a1 l1 c1, .slice a2 l2 c2] 91 rfl) hb3); (have hFl := At.lt hFb); obtain ⟨⟨qb0, qb1, qb2, qb3, qb4, qb5⟩, _⟩ := six_cells hFb) | (go_at_call 95; go_must (refine (dInsert x nm1 _ _ _ _ _ hO (by have := HFND.out.le; simpa using this) (by simp [Value.oneCell']) hW3 ⟨HNS.out, hW1.fresh (Below.trans (below_box w2 _) (hb3.mono (by simp))) hRep⟩).mono ?_); rintro e w4 ⟨a', c', rfl, hA1, hA2, HY⟩; obtain ⟨⟨bz0, bz1, bz2, bz3, bz4⟩, fz0, fz1, fz2, fz3, fz4⟩ := five_cells hA2; obtain ⟨⟨vz0, vz1, vz2, vz3, vz4⟩, gz0, gz1, gz2, gz3, gz4⟩ := five_cells hA1))
              have hFD := HFND.out
              have hmap : (O.take tt ++ ((nm1, x), [.int .i64 k1, .int .i64 n1, .string t1, .slice a1 l1 c1, .slice a2 l2 c2]) :: O.drop tt).map (·.1) = (O.map (·.1)).take tt ++ (nm1, x) :: (O.map (·.1)).drop tt := by
                rw [List.map_append, List.map_cons, List.map_take, List.map_drop]
              have hl : (O.take tt ++ ((nm1, x), [.int .i64 k1, .int .i64 n1, .string t1, .slice a1 l1 c1, .slice a2 l2 c2]) :: O.drop tt).length = O.length + 1 := by
                have := hFD.le; simp at this; simp; omega
              refine ⟨⟨J, _, _, hJs, by rw [hl]; omega, hid (by rw [hmap]; exact hFD.rises HP.out x), ?_, HY.out⟩, ?_⟩
              · have h := HRN.out
                rw [← hJ, hFD.rset HP.out x, ← hmap] at h
                rw [hl, show 302 - (O.length + 1) = 302 - O.length - 1 by omega]
                exact h
              · rw [lenAt4_at HY.out.vbox, lenAt4_at hW.vbox]; omega
            · have hm' : (300 : Int) < (O.length : Int) + 1 := by omega
              have HRN := hid (show ([], 2, j) = R by have h := HU2.out; rw [if_neg (by simp), if_neg (by simp only; rw [hg]; simp), if_pos (by simp; omega)] at h; exact h)
              clear HU2 hg
              go_wp2_with (first | (go_at_call 268; go_must (refine (hends _ hW.mov.at_).mono ?_); rintro e w1 ⟨rfl, hm1⟩; (have hW1 := hW.moved hm1); obtain ⟨⟨bx0, bx1, bx2, bx3, bx4⟩, fx0, fx1, fx2, fx3, fx4⟩ := five_cells hW1.box; obtain ⟨⟨vx0, vx1, vx2, vx3, vx4⟩, fv⟩ := hW1.cells) | (go_at_call 269; go_must (refine (hv _ (hW1.env hE) hm1.at_).mono ?_); rintro e w2 ⟨nm1, k1, n1, t1, a1, a2, l1, c1, l2, c2, J, rfl, hm2, HQ⟩; (have hW2 := hW1.moved hm2); (have hz2 := hW2.size); (have hWa := hW2.below (below_box w2 (.cells #[.string nm1, .int .i64 k1, .int .i64 n1, .string t1, .slice a1 l1 c1, .slice a2 l2 c2] 91))); obtain ⟨⟨by0, by1, by2, by3, by4⟩, fy0, fy1, fy2, fy3, fy4⟩ := five_cells hW2.box; obtain ⟨⟨vy0, vy1, vy2, vy3, vy4⟩, fvy⟩ := hW2.cells; obtain ⟨⟨ba0, ba1, ba2, ba3, ba4⟩, fa0, fa1, fa2, fa3, fa4⟩ := five_cells hWa.box; obtain ⟨⟨va0, va1, va2, va3, va4⟩, fva⟩ := hWa.cells) | (go_at_call 270; obtain ⟨hJ, hJs, hNm, hRep⟩ := HQ.out (by first | trivial | rfl); subst hNm; go_must (refine (dSearch nm1 _ _ _ _ _ false hO HP.out HG.out (by simp [Value.oneCell']) hWa).mono ?_); rintro e w3 ⟨⟨tt, rfl, HFND⟩, hb3⟩; (have hW3 := hWa.below hb3); obtain ⟨⟨bb0, bb1, bb2, bb3, bb4⟩, fb0, fb1, fb2, fb3, fb4⟩ := five_cells hW3.box; obtain ⟨⟨vb0, vb1, vb2, vb3, vb4⟩, fvb⟩ := hW3.cells; (have hFb := At.later (At.new w2 #[.string nm1, .int .i64 k1, .int .i64 n1, .string t1, .slice a1 l1 c1, .slice a2 l2 c2] 91 rfl) hb3); (have hFl := At.lt hFb); obtain ⟨⟨qb0, qb1, qb2, qb3, qb4, qb5⟩, _⟩ := six_cells hFb) | (go_at_call 95; go_must (refine (dInsert x nm1 _ _ _ _ _ hO (by have := HFND.out.le; simpa using this) (by simp [Value.oneCell']) hW3 ⟨HNS.out, hW1.fresh (Below.trans (below_box w2 _) (hb3.mono (by simp))) hRep⟩).mono ?_); rintro e w4 ⟨a', c', rfl, hA1, hA2, HY⟩; obtain ⟨⟨bz0, bz1, bz2, bz3, bz4⟩, fz0, fz1, fz2, fz3, fz4⟩ := five_cells hA2; obtain ⟨⟨vz0, vz1, vz2, vz3, vz4⟩, gz0, gz1, gz2, gz3, gz4⟩ := five_cells hA1))
              obtain ⟨hM5, hB5, hP5⟩ := HY.out.fill (by have := HFND.out.le; simp at this; simp; omega) (.int .i64 0) (.int .i64 0) (.string ⟨#[]⟩) (.slice none 0 0) (.slice none 0 0) rfl
              unfold set5 at hM5 hB5 hP5
              generalize World.setCell _ _ _ = wf at hM5 hB5 hP5 ⊢
              obtain ⟨⟨cx0, cx1, cx2, cx3, cx4⟩, _⟩ := five_cells hB5
              refine bodyPost_ret (v := .tuple #[.agg #[.int .i64 0, .int .i64 0, .string ⟨#[]⟩, .slice none 0 0, .slice none 0 0], .iface 86 (.int .i64 2)]) (by simp [results, Tryz.results201, go_sem, cx0, cx1, cx2, cx3, cx4]; try first | exact ⟨rfl, rfl⟩ | rfl) rfl ?_
              rw [← HRN.out]
              exact ⟨0, 0, ⟨#[]⟩, none, none, 0, 0, 0, 0, _, rfl, hM5, hid (fun h => absurd (show (2 : Int) = 0 from h) (by decide))⟩
          · have HG := hid hg
            have HRN := hid (show ([], 3, j) = R by have h := HU2.out; rw [if_neg (by simp), if_pos (by simp only; exact hg)] at h; exact h)
            clear HU2 hg
            go_wp2_with (first | (go_at_call 268; go_must (refine (hends _ hW.mov.at_).mono ?_); rintro e w1 ⟨rfl, hm1⟩; (have hW1 := hW.moved hm1); obtain ⟨⟨bx0, bx1, bx2, bx3, bx4⟩, fx0, fx1, fx2, fx3, fx4⟩ := five_cells hW1.box; obtain ⟨⟨vx0, vx1, vx2, vx3, vx4⟩, fv⟩ := hW1.cells) | (go_at_call 269; go_must (refine (hv _ (hW1.env hE) hm1.at_).mono ?_); rintro e w2 ⟨nm1, k1, n1, t1, a1, a2, l1, c1, l2, c2, J, rfl, hm2, HQ⟩; (have hW2 := hW1.moved hm2); (have hz2 := hW2.size); (have hWa := hW2.below (below_box w2 (.cells #[.string nm1, .int .i64 k1, .int .i64 n1, .string t1, .slice a1 l1 c1, .slice a2 l2 c2] 91))); obtain ⟨⟨by0, by1, by2, by3, by4⟩, fy0, fy1, fy2, fy3, fy4⟩ := five_cells hW2.box; obtain ⟨⟨vy0, vy1, vy2, vy3, vy4⟩, fvy⟩ := hW2.cells; obtain ⟨⟨ba0, ba1, ba2, ba3, ba4⟩, fa0, fa1, fa2, fa3, fa4⟩ := five_cells hWa.box; obtain ⟨⟨va0, va1, va2, va3, va4⟩, fva⟩ := hWa.cells) | (go_at_call 270; obtain ⟨hJ, hJs, hNm, hRep⟩ := HQ.out (by first | trivial | rfl); subst hNm; go_must (refine (dSearch nm1 _ _ _ _ _ true hO HP.out HG.out (by simp [Value.oneCell']) hWa).mono ?_); rintro e w3 ⟨⟨tt, rfl, HFND⟩, hb3⟩; (have hW3 := hWa.below hb3); obtain ⟨⟨bb0, bb1, bb2, bb3, bb4⟩, fb0, fb1, fb2, fb3, fb4⟩ := five_cells hW3.box; obtain ⟨⟨vb0, vb1, vb2, vb3, vb4⟩, fvb⟩ := hW3.cells; (have hFb := At.later (At.new w2 #[.string nm1, .int .i64 k1, .int .i64 n1, .string t1, .slice a1 l1 c1, .slice a2 l2 c2] 91 rfl) hb3); (have hFl := At.lt hFb); obtain ⟨⟨qb0, qb1, qb2, qb3, qb4, qb5⟩, _⟩ := six_cells hFb))
            obtain ⟨hM5, hB5, hP5⟩ := hW3.fill (by omega) (.int .i64 0) (.int .i64 0) (.string ⟨#[]⟩) (.slice none 0 0) (.slice none 0 0) rfl
            unfold set5 at hM5 hB5 hP5
            generalize World.setCell _ _ _ = wf at hM5 hB5 hP5 ⊢
            obtain ⟨⟨cx0, cx1, cx2, cx3, cx4⟩, _⟩ := five_cells hB5
            refine bodyPost_ret (v := .tuple #[.agg #[.int .i64 0, .int .i64 0, .string ⟨#[]⟩, .slice none 0 0, .slice none 0 0], .iface 86 (.int .i64 3)]) (by simp [results, Tryz.results201, go_sem, cx0, cx1, cx2, cx3, cx4]; try first | exact ⟨rfl, rfl⟩ | rfl) rfl ?_
            rw [← HRN.out]
            exact ⟨0, 0, ⟨#[]⟩, none, none, 0, 0, 0, 0, _, rfl, hM5, hid (fun h => absurd (show (3 : Int) = 0 from h) (by decide))⟩
        · have HRN := hid (show ([], e1, j) = R by rw [← HU2.out, if_pos he])
          have HX := hid he
          rw [errN_pos he] at hv
          unfold errV at hv
          clear HU2 he
          go_wp2_with (first | (go_at_call 268; go_must (refine (hends _ hW.mov.at_).mono ?_); rintro e w1 ⟨rfl, hm1⟩; (have hW1 := hW.moved hm1); obtain ⟨⟨bx0, bx1, bx2, bx3, bx4⟩, fx0, fx1, fx2, fx3, fx4⟩ := five_cells hW1.box; obtain ⟨⟨vx0, vx1, vx2, vx3, vx4⟩, fv⟩ := hW1.cells) | (go_at_call 269; go_must (refine (hv _ (hW1.env hE) hm1.at_).mono ?_); rintro e w2 ⟨nm1, k1, n1, t1, a1, a2, l1, c1, l2, c2, J, rfl, hm2, HQ⟩; (have hW2 := hW1.moved hm2); (have hz2 := hW2.size); (have hWa := hW2.below (below_box w2 (.cells #[.string nm1, .int .i64 k1, .int .i64 n1, .string t1, .slice a1 l1 c1, .slice a2 l2 c2] 91))); obtain ⟨⟨by0, by1, by2, by3, by4⟩, fy0, fy1, fy2, fy3, fy4⟩ := five_cells hW2.box; obtain ⟨⟨vy0, vy1, vy2, vy3, vy4⟩, fvy⟩ := hW2.cells; obtain ⟨⟨ba0, ba1, ba2, ba3, ba4⟩, fa0, fa1, fa2, fa3, fa4⟩ := five_cells hWa.box; obtain ⟨⟨va0, va1, va2, va3, va4⟩, fva⟩ := hWa.cells))
          obtain ⟨hM5, hB5, hP5⟩ := hWa.fill (by omega) (.int .i64 0) (.int .i64 0) (.string ⟨#[]⟩) (.slice none 0 0) (.slice none 0 0) rfl
          unfold set5 at hM5 hB5 hP5
          generalize World.setCell _ _ _ = wf at hM5 hB5 hP5 ⊢
          obtain ⟨⟨cx0, cx1, cx2, cx3, cx4⟩, _⟩ := five_cells hB5
          refine bodyPost_ret (v := .tuple #[.agg #[.int .i64 0, .int .i64 0, .string ⟨#[]⟩, .slice none 0 0, .slice none 0 0], .iface 86 (.int .i64 e1)]) (by simp [results, Tryz.results201, go_sem, cx0, cx1, cx2, cx3, cx4]; try first | exact ⟨rfl, rfl⟩ | rfl) rfl ?_
          rw [← HRN.out]
          exact ⟨0, 0, ⟨#[]⟩, none, none, 0, 0, 0, 0, _, by rw [errN_pos HX.out]; rfl, hM5, hid (fun h => absurd h HX.out)⟩
      · have HRN := hid (show (O.map (·.1), 0, ez) = R by have h := HU.out; rw [if_neg (by simp), if_pos rfl] at h; exact h)
        unfold wEnd2 at hends
        clear HU
        go_wp2_with ((go_at_call 268; go_must (refine (hends _ hW.mov.at_).mono ?_); rintro e w1 ⟨rfl, hm1⟩; (have hW1 := hW.moved hm1); obtain ⟨⟨bx0, bx1, bx2, bx3, bx4⟩, fx0, fx1, fx2, fx3, fx4⟩ := five_cells hW1.box; obtain ⟨⟨vx0, vx1, vx2, vx3, vx4⟩, fv⟩ := hW1.cells))
        obtain ⟨hM5, hB5, hP5⟩ := hW1.fill (by omega) (.int .i64 6) (.int .i64 0) (.string ⟨#[]⟩) (.slice none 0 0) (.slice a O.length c) rfl
        unfold set5 at hM5 hB5 hP5
        generalize World.setCell _ _ _ = wf at hM5 hB5 hP5 ⊢
        obtain ⟨⟨cx0, cx1, cx2, cx3, cx4⟩, _⟩ := five_cells hB5
        refine bodyPost_ret (v := .tuple #[.agg #[.int .i64 6, .int .i64 0, .string ⟨#[]⟩, .slice none 0 0, .slice a O.length c], .nilIface]) (by simp [results, Tryz.results201, go_sem, cx0, cx1, cx2, cx3, cx4]; try first | exact ⟨rfl, rfl⟩ | rfl) rfl ?_
        rw [← HRN.out]
        exact ⟨6, 0, ⟨#[]⟩, none, a, 0, 0, _, c, _, by rw [errN_0], hM5, hid (fun _ => ⟨rfl, hez, hP5⟩)⟩
    · have HRN := hid (show ([], ex, j) = R by rw [← HU.out, if_pos hx])
      have HX := hid hx
      rw [errN_pos hx] at hends
      unfold errV wEnd2 at hends
      clear HU hx
      go_wp2_with ((go_at_call 268; go_must (refine (hends _ hW.mov.at_).mono ?_); rintro e w1 ⟨rfl, hm1⟩; (have hW1 := hW.moved hm1); obtain ⟨⟨bx0, bx1, bx2, bx3, bx4⟩, fx0, fx1, fx2, fx3, fx4⟩ := five_cells hW1.box; obtain ⟨⟨vx0, vx1, vx2, vx3, vx4⟩, fv⟩ := hW1.cells))
      all_goals
        obtain ⟨hM5, hB5, hP5⟩ := hW1.fill (by omega) (.int .i64 6) (.int .i64 0) (.string ⟨#[]⟩) (.slice none 0 0) (.slice a O.length c) rfl
        unfold set5 at hM5 hB5 hP5
        generalize World.setCell _ _ _ = wf at hM5 hB5 hP5 ⊢
        obtain ⟨⟨cx0, cx1, cx2, cx3, cx4⟩, _⟩ := five_cells hB5
        refine bodyPost_ret (v := .tuple #[.agg #[.int .i64 6, .int .i64 0, .string ⟨#[]⟩, .slice none 0 0, .slice a O.length c], .iface 86 (.int .i64 ex)]) (by simp [results, Tryz.results201, go_sem, cx0, cx1, cx2, cx3, cx4]; try first | exact ⟨rfl, rfl⟩ | rfl) rfl ?_
        rw [← HRN.out]
        exact ⟨6, 0, ⟨#[]⟩, none, a, 0, 0, _, c, _, by rw [errN_pos HX.out]; rfl, hM5, hid (fun h => absurd h HX.out)⟩
end Go.Proofs.YtefbfgcbbpmhlabGreatDoor

/-
  What reading a value makes, plainly.
-/
namespace Go.Proofs.YtefbfgcbbpmhlabGreatDoor
open Go.RowKit
set_option maxRecDepth 100000

def nameV (s : ByteArray) (p : Nat) : Rd := match nameR (wordP s (p + 1)).data.toList with
  | none => (V0 4 0 eB, 4, p)
  | some b => (V0 4 0 ⟨b.toArray⟩, 0, p + 1 + (wordP s (p + 1)).size)
def litV (s : ByteArray) (p : Nat) : Rd := (V0 3 0 ⟨(litT (s.data.toList.drop (p + 1)) 1 [] (p + 1)).2.1.toArray⟩, textR (litT (s.data.toList.drop (p + 1)) 1 [] (p + 1)).1 (litT (s.data.toList.drop (p + 1)) 1 [] (p + 1)).2.1, (litT (s.data.toList.drop (p + 1)) 1 [] (p + 1)).2.2)
def hexW (s : ByteArray) (p : Nat) : Rd := (V0 3 0 ⟨(hexTk (s.data.toList.drop (p + 1)) none [] (p + 1)).2.1.toArray⟩, textR (hexTk (s.data.toList.drop (p + 1)) none [] (p + 1)).1 (hexTk (s.data.toList.drop (p + 1)) none [] (p + 1)).2.1, (hexTk (s.data.toList.drop (p + 1)) none [] (p + 1)).2.2)
def listV (f : Nat → Rd) (s : ByteArray) (p : Nat) : Rd := (⟨5, 0, eB, (rdL f s 302 [] (p + 1)).1, []⟩, (rdL f s 302 [] (p + 1)).2.1, (rdL f s 302 [] (p + 1)).2.2)
def dictV (f : Nat → Rd) (s : ByteArray) (p : Nat) : Rd := (⟨6, 0, eB, [], (rdD f s 302 [] (p + 2)).1⟩, (rdD f s 302 [] (p + 2)).2.1, (rdD f s 302 [] (p + 2)).2.2)
def otherV (s : ByteArray) (p : Nat) : Rd := (V0 (otherK s p).1 (otherK s p).2.1 eB, (otherK s p).2.2.1, (otherK s p).2.2.2)
/-- What a value is that begins at p, just there. -/
def rdAt (f : Nat → Rd) (s : ByteArray) (p : Nat) : Rd :=
  if s.data.toList[p]? = some 47 then nameV s p
  else if s.data.toList[p]? = some 40 then litV s p
  else if s.data.toList[p]? = some 60 then (if s.data.toList[p + 1]? = some 60 then dictV f s p else hexW s p)
  else if s.data.toList[p]? = some 91 then listV f s p
  else if (s.data.toList[p]?).map isSg = some true then (V0 0 0 eB, 4, p)
  else otherV s p
/-- What reading a value makes; so many levels are left. -/
def rdV (s : ByteArray) : Nat → Nat → Rd
  | 0, j => (V0 0 0 eB, if skipP s j = s.size then 5 else 2, j)
  | n + 1, j => if skipP s j = s.size then (V0 0 0 eB, 5, j) else rdAt (rdV s n) s (skipP s j)

/-- Does this stand at p? -/
def ahB (s : ByteArray) (p : Nat) (q : ByteArray) : Bool := Lib.hasPrefix (s.data.toList.drop p) q.data.toList
theorem ahB_one {s : ByteArray} {p : Nat} {c : UInt8} (hp : p < s.size) : ahB s p ⟨#[c]⟩ = decide (s[p] = c) := by
  unfold ahB
  rw [drop_at s p hp]
  show List.isPrefixOf [c] (s[p] :: _) = _
  by_cases h : s[p] = c
  · rw [h]; simp [List.isPrefixOf]
  · rw [decide_eq_false h]; simp [List.isPrefixOf, beq_eq_false_iff_ne, Ne.symm h]
theorem ahB_two {s : ByteArray} {p : Nat} {c e : UInt8} (hp : p < s.size) : ahB s p ⟨#[c, e]⟩ = decide (s[p] = c ∧ s.data.toList[p + 1]? = some e) := by
  unfold ahB
  rw [drop_at s p hp]
  show List.isPrefixOf [c, e] (s[p] :: _) = _
  by_cases h : s[p] = c
  · by_cases hq : p + 1 < s.size
    · rw [drop_at s (p + 1) hq, h]
      have hg : s.data.toList[p + 1]? = some s[p + 1] := by rw [List.getElem?_eq_getElem (by simpa using hq)]; rfl
      rw [hg]
      by_cases h2 : s[p + 1] = e
      · rw [h2]; simp [List.isPrefixOf]
      · simp [List.isPrefixOf, beq_eq_false_iff_ne, Ne.symm h2, h2]
    · have hn : s.data.toList[p + 1]? = none := by rw [List.getElem?_eq_none_iff]; simp; omega
      rw [List.drop_eq_nil_of_le (by simp; omega), hn]
      simp [List.isPrefixOf]
  · rw [decide_eq_false (fun q => h q.1)]; simp [List.isPrefixOf, Ne.symm h]
theorem yAheadQ (P : Nat) (s q : ByteArray) (k : Nat) (w : World) (hR : RdAt w P s k) (hk : k ≤ s.size) :
    Calls Tryz.prog 197 #[.pointer (some ⟨P, 0, none⟩), .string q] w fun e w' => e = .returned (.bool (ahB s k q)) ∧ Moved P w w' s k := yAhead P s q k w hR hk
theorem Boxed.fill5 {P : Nat} {w a : World} {s : ByteArray} {j : Nat} (h : Boxed P w a s j) (v0 v1 v2 v3 v4 : Value) {wf : World} (hf : wf = set5 a w.heap.size v0 v1 v2 v3 v4) :
    Moved P w wf s j ∧ At wf w.heap.size 26 #[v0, v1, v2, v3, v4] ∧ wf.heap.size = a.heap.size ∧ ∀ k, k ≠ w.heap.size → wf.heap[k]? = a.heap[k]? := by
  subst hf
  exact ⟨h.mov.set5 (Nat.le_refl _) h.lt _ _ _ _ _, At.five h.box _ _ _ _ _, set5_size _ _ _ _ _ _ _, fun k hk => set5_other _ _ _ _ _ _ _ hk⟩
theorem repIn_boxed {w a wf : World} {d : Nat} {x : V} {cs : List Value} (h1 : wf.heap.size = a.heap.size) (h2 : ∀ k, k ≠ w.heap.size → wf.heap[k]? = a.heap[k]?) {b : World} (hb : w.heap.size < b.heap.size) (hx : RepIn (fun g => b.heap.size ≤ g ∧ g < a.heap.size) d a x cs) :
    RepIn (fun g => w.heap.size ≤ g ∧ g < wf.heap.size) d wf x cs :=
  (hx.agree (by omega) fun g hg => h2 g (by have := hg.1; omega)).mono fun g hg => ⟨by have := hg.1; omega, by have := hg.2; omega⟩
theorem refP_le {s : ByteArray} {k j : Nat} (hk : k ≤ s.size) (h : refP s k = some j) : j ≤ s.size := by
  unfold refP at h
  split at h
  · rename_i h1
    split at h
    · rename_i h2
      injection h with h
      have a1 := yWordLe (s := s) (k := skipP s k) (skipP_le hk).2
      rw [h1] at a1
      have b1 : w0.size = 1 := rfl
      have hk2 : skipP s k + 1 ≤ s.size := by omega
      have a2 := yWordLe (s := s) (k := skipP s (skipP s k + 1)) (skipP_le hk2).2
      rw [h2] at a2
      have b2 : wR.size = 1 := rfl
      omega
    · cases h
  · cases h
theorem otherK_le {s : ByteArray} {k : Nat} (hk : k ≤ s.size) : (otherK s k).2.2.2 ≤ s.size := by
  have hl := yWordLe hk
  unfold otherK
  generalize wordP s k = W at hl ⊢
  have hr : (refP s (k + W.size)).getD (k + W.size) ≤ s.size := by
    cases h : refP s (k + W.size) with
    | none => exact hl
    | some j => exact refP_le hl h
  by_cases h1 : W = wNull
  · simp only [if_pos h1]; exact hl
  · by_cases h2 : W = wTrue
    · simp only [if_neg h1, if_pos h2]; exact hl
    · by_cases h3 : W = wFalse
      · simp only [if_neg h1, if_neg h2, if_pos h3]; exact hl
      · by_cases h4 : objL W.data.toList ≠ 0 ∧ (refP s (k + W.size)).isSome = true
        · simp only [if_neg h1, if_neg h2, if_neg h3, if_pos h4]; exact hr
        · simp only [if_neg h1, if_neg h2, if_neg h3, if_neg h4]; exact hl
theorem textR_zero {e : Int} {xs : List UInt8} (h : textR e xs = 0) : e = 0 ∧ xs.length ≤ 200 := by
  unfold textR at h
  split at h
  · rename_i h1; exact absurd h h1
  · rename_i h1
    split at h
    · exact absurd h (by decide)
    · rename_i h2; exact ⟨by simpa using h1, by omega⟩
theorem yTextC (e : Int) (B : Nat) (v : Value) (xs : List UInt8) (w : World) (hown : Own8 w B v xs) :
    Calls Tryz.prog 199 #[v, errN e] w fun r w' => ∃ (k : Int) (t : ByteArray), r = .returned (.tuple #[.agg #[.int .i64 k, .int .i64 0, .string t, .slice none 0 0, .slice none 0 0], errN (textR e xs)]) ∧ Hid (textR e xs = 0 → k = 3 ∧ t = ⟨xs.toArray⟩) ∧ Below w.heap.size w w' := by
  refine (yText e B v xs w hown).mono ?_
  rintro r w' ⟨rfl, hb⟩
  unfold textV
  by_cases h : textR e xs = 0
  · rw [if_pos h]; exact ⟨3, _, rfl, hid (fun _ => ⟨rfl, rfl⟩), hb⟩
  · rw [if_neg h]; exact ⟨0, _, rfl, hid (fun q => absurd q h), hb⟩
end Go.Proofs.YtefbfgcbbpmhlabGreatDoor
