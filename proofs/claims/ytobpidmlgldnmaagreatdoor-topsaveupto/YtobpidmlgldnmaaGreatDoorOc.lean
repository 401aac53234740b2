/-
  Joined: Cq, Gi, Oc.
-/
import Derived.Test.YtobpidmlgldnmaaGreatDoorCh
import Derived.Test.YtobpidmlgldnmaaGreatDoorGh
import Derived.Test.YtobpidmlgldnmaaGreatDoorCk
import Derived.Maps.RangeWalk
import Derived.LoopN
import Derived.Test.YtobpidmlgldnmaaGreatDoorYy

/-
  Spans that are few; what is written of them.
-/
namespace Go.Proofs.YtobpidmlgldnmaaGreatDoor
open Go.RowKit
set_option maxRecDepth 100000
attribute [local go_sem ↓] Go.wp_at_zero Go.wp_at_succ

set_option maxHeartbeats 1000000 in
theorem light_sp (l : List Sp) (al : Option Addr) (cap : Nat) (w : World) (hl : l.length ≤ maxLen) (hA : SpAt w al l) :
    Calls Tryz.prog 25 #[.slice al l.length cap] w fun e w' => (e = .returned (.bool false) ∨ e = .returned (.bool true) ∧ ∀ x ∈ l, x.s.size ≤ 60) ∧ Below w.heap.size w w' := by
  unfold maxLen at hl
  by_cases h3 : 310 < l.length
  · have h3' : (310 : Int) < l.length := by omega
    go_enter Tryz.func25, Tryz.ntmps25
    go_wp2
    go_ret
    exact ⟨.inl rfl, Below.refl _ _⟩
  have h3' : ¬ (310 : Int) < l.length := by omega
  have HA := hid hA
  clear hA
  go_enter Tryz.func25, Tryz.ntmps25
  go_wp2_with fail
  go_loopw [3] (fun i wr => ∃ p : Nat, i = .int .i64 p ∧ p ≤ l.length ∧ Hid (∀ x ∈ l.take p, x.s.size ≤ 60) ∧ Below w.heap.size w wr) (fun i _ => l.length - (intOf i).toNat)
  case atStart => exact ⟨0, rfl, Nat.zero_le _, fun x hx => by simp at hx, Below.refl _ _⟩
  case round =>
    obtain ⟨p, rfl, hp, HP, hB⟩ := hrel
    by_cases hpl : p < l.length
    · have hpl' : (p : Int) < l.length := by omega
      have HT := hid (show l.take (p + 1) = l.take p ++ [l[p]] from List.take_succ_eq_append_getElem hpl)
      obtain ⟨b, off, rfl, hbl, g0, g1, g2, _, _, _⟩ := (HA.out.later hB) p l[p] (List.getElem?_eq_getElem hpl)
      generalize l[p] = x at *
      by_cases h6 : (60 : Int) < x.s.size
      · go_wp2_with fail
        go_ret
        exact ⟨.inl rfl, hB⟩
      · go_wp2_with fail
        go_roundw
        case rel =>
          refine ⟨p + 1, by go_num, by omega, hid fun y hy => ?_, hB⟩
          rw [HT.out] at hy
          rcases List.mem_append.1 hy with hy | hy
          · exact HP.out y hy
          · simp at hy; subst hy; omega
        case measure => simp [intOf]; omega
    · have hpl' : ¬ (p : Int) < l.length := by omega
      go_wp2_with fail
      go_ret
      have q := HP.out
      rw [List.take_of_length_le (by omega)] at q
      exact ⟨.inr ⟨rfl, q⟩, hB⟩
end Go.Proofs.YtobpidmlgldnmaaGreatDoor

/-
  Fonts that are no great ones.
-/
namespace Go.Proofs.YtobpidmlgldnmaaGreatDoor
open Go.RowKit Go.Maps
set_option maxRecDepth 100000
attribute [local go_sem ↓] Go.wp_at_zero Go.wp_at_succ

set_option maxHeartbeats 1000000 in
theorem lightFont (F : Ft) (mw mn : Value) (al : Option Addr) (cap : Nat) (w : World) (hF : FtIn w F mw mn al) :
    Calls Tryz.prog 18 #[ftV F mw mn al cap] w fun e w' => (e = .returned (.bool false) ∨ e = .returned (.bool true) ∧ spFault F.l F.wide = 0) ∧ Below w.heap.size w w' := by
  obtain ⟨hA, ⟨k1, hk1⟩, ⟨k2, hk2⟩, hnr⟩ := hF
  have HLS := hid (fun W (hB : Below w.heap.size w W) => light_sp F.l al cap W hA.len (hA.sp.later hB))
  have HSF := hid (fun W (hB : Below w.heap.size w W) (h60 : ∀ x ∈ F.l, x.s.size ≤ 60) => rFault_sp F.l F.wide al cap W (hA.sp.later hB) h60)
  have HK1 := hid hk1
  have HK2 := hid hk2
  have HNR := hid hnr
  clear hA hk1 hk2 hnr
  obtain ⟨wide, wf, miss, nf, l⟩ := F
  simp only at *
  unfold ftV
  simp only
  go_enter Tryz.func18, Tryz.ntmps18
  go_wp2_with (go_at_call 25; fail)
  go_at_call 25
  refine (HLS.out _ (by go_grown)).mono ?_
  rintro e w1 ⟨he, hb1⟩
  have A1 := At.later (At.new w #[.bool wide, mw, .int .i64 miss, mn, .slice al l.length cap] 56 rfl) hb1
  have hB1 : Below w.heap.size w w1 := chn' (by go_grown) hb1
  have z1 := A1.lt
  have c0 := A1.cell 0
  have c1 := A1.cell 1
  have c3 := A1.cell 3
  have c4 := A1.cell 4
  simp at c0 c1 c3 c4
  clear hb1
  rcases he with rfl | ⟨rfl, h60⟩
  · go_wp2_with fail
    go_ret
    exact ⟨.inl rfl, hB1⟩
  have e1 := fun ty => HK1.out w1 ty hB1
  have e2 := fun ty => HK2.out w1 ty hB1
  have H60 := hid h60
  clear h60
  by_cases h4 : (400 : Int) < k1
  · go_wp2_with fail
    go_ret
    exact ⟨.inl rfl, hB1⟩
  by_cases h3 : (300 : Int) < k2
  · go_wp2_with fail
    go_ret
    exact ⟨.inl rfl, hB1⟩
  rcases HNR.out with rfl | ⟨H, b, n, D, rfl, hown⟩
  · have hrg := run_range_nilMap (P := Tryz.prog) w1 53 3 9 Tryz.underlying53
    have hnx : ∀ ty, (Instr.next (.pointer (some ⟨w1.heap.size, 0, none⟩)) false ty).run Tryz.prog (w1.alloc (.mapIter none 0 #[] 0)) = _ := fun ty => run_next_nilMap w1 ty 0 0 #[]
    go_wp2_with fail
    refine wp_loop_rounds 1 ?_
    rw [rounds_succ]
    have hBn : Below w.heap.size w (w1.alloc (.mapIter none 0 #[] 0)) := hB1.alloc hB1.size _
    go_wp2_with (go_at_call 26; fail)
    go_at_call 26
    refine (HSF.out _ (hBn) H60.out).mono ?_
    rintro e w5 ⟨rfl, hb5⟩
    have hB5 := chn' (hBn) hb5
    by_cases hf : spFault l wide = 0
    · rw [hf]
      go_wp2_with fail
      go_ret
      exact ⟨.inr ⟨rfl, hf⟩, hB5⟩
    · have hf' : (spFault l wide == 0) = false := by simpa using hf
      go_wp2_with fail
      go_ret
      exact ⟨.inl (by first | rfl | (simp [hf]; done) | (rw [hf'])), hB5⟩
  · have hown1 := kept_below hown hB1
    go_wp2_with (first | (at_range; refine wpList_range_own _ rfl _ 53 rfl 3 9 lawI Tryz.underlying53 _ b n _ rfl hown1 ?_; intro w2 hrg2 hg2 hs2) | go_in)
    go_frame
    go_loopw [4] (fun _ wr => ∃ (left : Lit → Bool) (cnt : Nat), wr.ranges Tryz.prog 3 (plainElem Tryz.prog 9) b w1.heap.size n D left cnt ∧ Below w1.heap.size w1 wr) (fun _ wr => wr.rangeLeft b w1.heap.size)
    case atStart => exact ⟨_, _, hrg2, (Below.refl _ _).grown hg2 (Nat.le_refl _) (fun k h => by cases h)⟩
    case round =>
      obtain ⟨left, cnt, hrg, hB⟩ := hrel
      have d0 := (hB.cell (p := ⟨w.heap.size, 0, none⟩) z1).trans c0
      have d4 := (hB.cell (p := ⟨w.heap.size, 4, none⟩) z1).trans c4
      have zz := Nat.lt_of_lt_of_le z1 hB.size
      have hBn := chn' hB1 hB
      go_wp2_with (first | (at_next; refine wpList_next_ranges_is _ rfl _ rfl 3 9 .i64 lawI Tryz.underlying3 Tryz.underlying9 b w1.heap.size n _ _ _ rfl hrg ?_ ?_) | go_in)
      · intro _ _
        go_wp2_with (go_at_call 26; fail)
        go_at_call 26
        refine (HSF.out _ (hBn) H60.out).mono ?_
        rintro e w5 ⟨rfl, hb5⟩
        have hB5 := chn' (hBn) hb5
        by_cases hf : spFault l wide = 0
        · rw [hf]
          go_wp2_with fail
          go_ret
          exact ⟨.inr ⟨rfl, hf⟩, hB5⟩
        · have hf' : (spFault l wide == 0) = false := by simpa using hf
          go_wp2_with fail
          go_ret
          exact ⟨.inl (by first | rfl | (simp [hf]; done) | (rw [hf'])), hB5⟩
      · intro x c w3 cnt3 hwx hwc hlx hat hrg3 hlt hg3 hs3 hen
        have hB3 := hB.grown hg3 hB.size (fun k hk => by cases hk; exact Nat.le_refl _)
        by_cases h100 : (100 : Int) < c.size
        · go_wp2_with fail
          go_ret
          exact ⟨.inl rfl, chn' hB1 hB3⟩
        · go_wp2_with fail
          go_roundw
          case rel => exact ⟨_, cnt3, hrg3, hB3⟩
          case measure => rw [hrg3.left_eq, hrg.left_eq]; exact hlt
end Go.Proofs.YtobpidmlgldnmaaGreatDoor

/-
  parse.Value, whole: where the value lies.
-/
namespace Go.Proofs.YtobpidmlgldnmaaGreatDoor
open Go.RowKit
set_option maxRecDepth 100000

theorem repIn_0 (S : Nat → Prop) (d : Nat) (w : World) : RepIn S (d + 1) w (V0 0 0 eB) [.int .i64 0, .int .i64 0, .string ⟨#[]⟩, .slice none 0 0, .slice none 0 0] := repIn_vc S d w 0 0 eB (by decide)
/-- What a call that reads a value from a place on says; the value lies in new blocks. -/
def SaidI (w : World) (r : Rd) (e : Ending) (w' : World) : Prop :=
  ∃ (k n : Int) (t : ByteArray) (a1 a2 : Option Addr) (l1 c1 l2 c2 : Nat), e = .returned (.tuple #[.agg #[.int .i64 k, .int .i64 n, .string t, .slice a1 l1 c1, .slice a2 l2 c2], .int .i64 (r.2.2 : Nat), errN r.2.1]) ∧ Below w.heap.size w w' ∧
    Hid (RepIn (fun b => w.heap.size ≤ b ∧ b < w'.heap.size) 9 w' r.1 [.int .i64 k, .int .i64 n, .string t, .slice a1 l1 c1, .slice a2 l2 c2])
set_option maxHeartbeats 4000000 in
theorem pValueI (m : Int) (s : ByteArray) (a : Int) (w : World) (_hs : s.size ≤ maxLen) (hG : Gr m w) :
    Calls Tryz.prog 59 #[.string s, .int .i64 a] w (SaidI w (pV s a)) := by
  by_cases hb : 60000 < s.size ∨ a < 0 ∨ (s.size : Int) < a
  · have HP := hid (show pV s a = (V0 0 0 eB, 1, 0) by unfold pV; rw [if_pos hb])
    rw [HP.out]
    have h1 : (60000 : Int) < s.size ∨ (¬ (60000 : Int) < s.size ∧ a < 0) ∨ (¬ (60000 : Int) < s.size ∧ ¬ a < 0 ∧ (s.size : Int) < a) := by omega
    clear hb
    rcases h1 with h1 | ⟨h1, h2⟩ | ⟨h1, h2, h3⟩
    all_goals
      go_enter Tryz.func59, Tryz.ntmps59
      go_wp2
      refine bodyPost_ret (v := .tuple #[.agg (vc 0 0 ⟨#[]⟩), .int .i64 0, .iface 68 (.int .i64 1)]) (by simp [results, Tryz.results59, go_sem]; try first | exact ⟨rfl, rfl⟩ | rfl) rfl ?_
      exact ⟨0, 0, ⟨#[]⟩, none, none, 0, 0, 0, 0, rfl, by first | exact below_box _ _ | exact below_set5 (below_box _ _) (Nat.le_refl _) _ _ _ _ _, hid (repIn_0 _ _ _)⟩
  · have h1 : ¬ (60000 : Int) < s.size := by omega
    have h2 : ¬ a < 0 := by omega
    have h3 : ¬ (s.size : Int) < a := by omega
    obtain ⟨k, rfl⟩ : ∃ k : Nat, a = k := ⟨a.toNat, by omega⟩
    have HP := hid (show pV s k = if (rdV s 8 k).2.1 ≠ 0 then (V0 0 0 eB, (rdV s 8 k).2.1, 0) else if faultV (rdV s 8 k).1 ≠ 0 then (V0 0 0 eB, faultV (rdV s 8 k).1, 0) else rdV s 8 k by unfold pV; rw [if_neg hb, Int.toNat_natCast])
    clear hb
    have hv := fun (P : Nat) (w : World) (hE : Env m P w) (hR : RdAt w P s k) => yValue m P s (by omega) 8 1 (by omega) (by omega) w k hE hR (by omega)
    have HF := hid (rdV_fits s 8 k (by omega))
    generalize rdV s 8 k = r at HP hv HF
    obtain ⟨v, e1, z⟩ := r
    unfold Said at hv
    simp only at hv
    have HN0 := hid (Nest.new w s k)
    have HR0 := hid HN0.out.at_
    have HE0 := hid (((hG.below (below_box w (.cells (vc 0 0 ⟨#[]⟩) 38))).env (P := w.heap.size + 1) (by simp)).upTo (by
      have := below_box (w.alloc (.cells (vc 0 0 ⟨#[]⟩) 38)) (.cells #[.string s, .int .i64 k] 130)
      rwa [show (w.alloc (.cells (vc 0 0 ⟨#[]⟩) 38)).heap.size = w.heap.size + 1 by simp] at this))
    by_cases he : e1 = 0
    · subst he
      rw [errN_0] at hv
      have HC := hid (show v.cnt ≤ 1048576 by have := HF.out rfl; simp only at this; omega)
      by_cases hf : faultV v = 0
      · have HP2 := hid (show pV s k = (v, 0, z) by rw [HP.out, if_neg (by simp), if_neg (by simp [hf])])
        rw [HP2.out]
        have HFV := hid hf
        clear HP
        go_enter Tryz.func59, Tryz.ntmps59
        go_wp2_with (first | (go_at_call 80; go_must (refine (hv (w.heap.size + 1) _ HE0.out HR0.out).mono ?_); rintro e w1 ⟨k1, n1, t1, a1, a2, l1, c1, l2, c2, J, rfl, hm, HQ⟩; (have hN1 := HN0.out.moved hm); (have hz1 := hN1.lt1); (have hNa := hN1.below' (below_box w1 (.cells #[.int .i64 k1, .int .i64 n1, .string t1, .slice a1 l1 c1, .slice a2 l2 c2] 38))); obtain ⟨⟨bx0, bx1, bx2, bx3, bx4⟩, bf0, bf1, bf2, bf3, bf4⟩ := box5 hNa.box; (have rc1 := hNa.at_.c1)) | (go_at_call 22; (have hq3 := (HQ.out (by first | rfl | trivial)).2.2); go_must (refine (check_says (d := 9) (v := v) (cs := [.int .i64 k1, .int .i64 n1, .string t1, .slice a1 l1 c1, .slice a2 l2 c2]) (hq3.now.later (below_box w1 _)) HC.out).mono ?_); rintro e w2 ⟨he2, hb2⟩; rw [HFV.out, errN_0] at he2; subst he2; (have hNb := hNa.below' hb2); obtain ⟨⟨by0, by1, by2, by3, by4⟩, bg0, bg1, bg2, bg3, bg4⟩ := box5 hNb.box; (have rd1 := hNb.at_.c1); (have hVb := At.later (At.new w1 #[.int .i64 k1, .int .i64 n1, .string t1, .slice a1 l1 c1, .slice a2 l2 c2] 38 rfl) hb2); obtain ⟨⟨vy0, vy1, vy2, vy3, vy4⟩, _⟩ := five_cells hVb))
        have HQ3 := hid hq3
        have HJ := hid (HQ.out (by first | rfl | trivial)).1
        clear hq3
        go_region
        all_goals
          go_wp2
          obtain ⟨hM5, hB5, hS5, hO5⟩ := hNb.fill5 (.int .i64 k1) (.int .i64 n1) (.string t1) (.slice a1 l1 c1) (.slice a2 l2 c2) rfl
          unfold set5 at hM5 hB5 hS5 hO5
          generalize World.setCell _ _ _ = wf at hM5 hB5 hS5 hO5 ⊢
          have hB6 : At wf.drew w.heap.size 38 #[.int .i64 k1, .int .i64 n1, .string t1, .slice a1 l1 c1, .slice a2 l2 c2] := hB5
          obtain ⟨⟨cx0, cx1, cx2, cx3, cx4⟩, _⟩ := five_cells hB6
          refine bodyPost_ret (v := .tuple #[.agg #[.int .i64 k1, .int .i64 n1, .string t1, .slice a1 l1 c1, .slice a2 l2 c2], .int .i64 J, .nilIface]) (by simp [results, Tryz.results59, go_sem, cx0, cx1, cx2, cx3, cx4]; try first | exact ⟨rfl, rfl⟩ | rfl) rfl ?_
          have hwf : w1.heap.size ≤ wf.heap.size := by have := hb2.size; simp at this; omega
          refine ⟨k1, n1, t1, a1, a2, l1, c1, l2, c2, by rw [HJ.out]; rfl, hM5.drew, hid ((HQ3.out.agree (w' := wf.drew) hwf fun b hb => ?_).mono fun b hb => ⟨by have := hb.1; simp at this; omega, Nat.lt_of_lt_of_le hb.2 hwf⟩)⟩
          · show wf.heap[b]? = _
            have h1 := hb.1
            simp at h1
            rw [hO5 b (by omega), hb2.block b (by have := hb.2; simp; omega), heap_alloc_old _ _ hb.2]
      · have HP2 := hid (show pV s k = (V0 0 0 eB, faultV v, 0) by rw [HP.out, if_neg (by simp), if_pos hf])
        rw [HP2.out]
        have HX := hid hf
        have hfe := errN_pos hf
        unfold errV at hfe
        have HFE := hid hfe
        clear hfe hf HP
        go_enter Tryz.func59, Tryz.ntmps59
        go_wp2_with (first | (go_at_call 80; go_must (refine (hv (w.heap.size + 1) _ HE0.out HR0.out).mono ?_); rintro e w1 ⟨k1, n1, t1, a1, a2, l1, c1, l2, c2, J, rfl, hm, HQ⟩; (have hN1 := HN0.out.moved hm); (have hz1 := hN1.lt1); (have hNa := hN1.below' (below_box w1 (.cells #[.int .i64 k1, .int .i64 n1, .string t1, .slice a1 l1 c1, .slice a2 l2 c2] 38))); obtain ⟨⟨bx0, bx1, bx2, bx3, bx4⟩, bf0, bf1, bf2, bf3, bf4⟩ := box5 hNa.box; (have rc1 := hNa.at_.c1)) | (go_at_call 22; (have hq3 := (HQ.out (by first | rfl | trivial)).2.2); go_must (refine (check_says (d := 9) (v := v) (cs := [.int .i64 k1, .int .i64 n1, .string t1, .slice a1 l1 c1, .slice a2 l2 c2]) (hq3.now.later (below_box w1 _)) HC.out).mono ?_); rintro e w2 ⟨he2, hb2⟩; rw [HFE.out] at he2; subst he2; (have hNb := hNa.below' hb2); obtain ⟨⟨by0, by1, by2, by3, by4⟩, bg0, bg1, bg2, bg3, bg4⟩ := box5 hNb.box; (have rd1 := hNb.at_.c1); (have hVb := At.later (At.new w1 #[.int .i64 k1, .int .i64 n1, .string t1, .slice a1 l1 c1, .slice a2 l2 c2] 38 rfl) hb2); obtain ⟨⟨vy0, vy1, vy2, vy3, vy4⟩, _⟩ := five_cells hVb))
        obtain ⟨hM5, hB5⟩ := hNb.fillZ
        generalize World.setCell _ _ _ = wf at hB5 hM5 ⊢
        obtain ⟨⟨cx0, cx1, cx2, cx3, cx4⟩, _⟩ := box5 hB5
        refine bodyPost_ret (v := .tuple #[.agg (vc 0 0 ⟨#[]⟩), .int .i64 0, .iface 68 (.int .i64 (faultV v))]) (by simp [results, Tryz.results59, go_sem, cx0, cx1, cx2, cx3, cx4]; try first | exact ⟨rfl, rfl⟩ | rfl) rfl ?_
        exact ⟨0, 0, ⟨#[]⟩, none, none, 0, 0, 0, 0, by rw [HFE.out]; rfl, hM5, hid (repIn_0 _ _ _)⟩
    · have HP2 := hid (show pV s k = (V0 0 0 eB, e1, 0) by rw [HP.out, if_pos he])
      rw [HP2.out]
      have HX := hid he
      rw [errN_pos he] at hv
      unfold errV at hv
      clear HP he
      go_enter Tryz.func59, Tryz.ntmps59
      go_wp2_with ((go_at_call 80; go_must (refine (hv (w.heap.size + 1) _ HE0.out HR0.out).mono ?_); rintro e w1 ⟨k1, n1, t1, a1, a2, l1, c1, l2, c2, J, rfl, hm, HQ⟩; (have hN1 := HN0.out.moved hm); (have hz1 := hN1.lt1); (have hNa := hN1.below' (below_box w1 (.cells #[.int .i64 k1, .int .i64 n1, .string t1, .slice a1 l1 c1, .slice a2 l2 c2] 38))); obtain ⟨⟨bx0, bx1, bx2, bx3, bx4⟩, bf0, bf1, bf2, bf3, bf4⟩ := box5 hNa.box; (have rc1 := hNa.at_.c1)))
      obtain ⟨hM5, hB5⟩ := hNa.fillZ
      generalize World.setCell _ _ _ = wf at hB5 hM5 ⊢
      obtain ⟨⟨cx0, cx1, cx2, cx3, cx4⟩, _⟩ := box5 hB5
      refine bodyPost_ret (v := .tuple #[.agg (vc 0 0 ⟨#[]⟩), .int .i64 0, .iface 68 (.int .i64 e1)]) (by simp [results, Tryz.results59, go_sem, cx0, cx1, cx2, cx3, cx4]; try first | exact ⟨rfl, rfl⟩ | rfl) rfl ?_
      exact ⟨0, 0, ⟨#[]⟩, none, none, 0, 0, 0, 0, by rw [errN_pos HX.out]; rfl, hM5, hid (repIn_0 _ _ _)⟩
end Go.Proofs.YtobpidmlgldnmaaGreatDoor
