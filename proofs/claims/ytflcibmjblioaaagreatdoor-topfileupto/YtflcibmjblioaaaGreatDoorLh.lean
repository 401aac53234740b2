/-
  Joined: Oc, Lg, Lh.
-/
import Derived.Test.YtflcibmjblioaaaGreatDoorLze
import Derived.Test.YtflcibmjblioaaaGreatDoorLf

/-
  parse.Value, whole: where the value lies.
-/
namespace Go.Proofs.YtflcibmjblioaaaGreatDoor
open Go.RowKit
set_option maxRecDepth 100000

theorem repIn_0 (S : Nat → Prop) (d : Nat) (w : World) : RepIn S (d + 1) w (V0 0 0 eB) [.int .i64 0, .int .i64 0, .string ⟨#[]⟩, .slice none 0 0, .slice none 0 0] := repIn_vc S d w 0 0 eB (by decide)
/-- What a call that reads a value from a place on says; the value lies in new blocks. -/
def SaidI (w : World) (r : Rd) (e : Ending) (w' : World) : Prop :=
  ∃ (k n : Int) (t : ByteArray) (a1 a2 : Option Addr) (l1 c1 l2 c2 : Nat), e = .returned (.tuple #[.agg #[.int .i64 k, .int .i64 n, .string t, .slice a1 l1 c1, .slice a2 l2 c2], .int .i64 (r.2.2 : Nat), errN r.2.1]) ∧ Below w.heap.size w w' ∧
    Hid (RepIn (fun b => w.heap.size ≤ b ∧ b < w'.heap.size) 9 w' r.1 [.int .i64 k, .int .i64 n, .string t, .slice a1 l1 c1, .slice a2 l2 c2])
set_option maxHeartbeats 4000000 in
theorem pValueI (m : Int) (s : ByteArray) (a : Int) (w : World) (_hs : s.size ≤ maxLen) (hG : Gr m w) :
    Calls Tryz.prog 28 #[.string s, .int .i64 a] w (SaidI w (pV s a)) := by
  by_cases hb : 60000 < s.size ∨ a < 0 ∨ (s.size : Int) < a
  · have HP := hid (show pV s a = (V0 0 0 eB, 1, 0) by unfold pV; rw [if_pos hb])
    rw [HP.out]
    have h1 : (60000 : Int) < s.size ∨ (¬ (60000 : Int) < s.size ∧ a < 0) ∨ (¬ (60000 : Int) < s.size ∧ ¬ a < 0 ∧ (s.size : Int) < a) := by omega
    clear hb
    rcases h1 with h1 | ⟨h1, h2⟩ | ⟨h1, h2, h3⟩
    all_goals
      go_enter Tryz.func28, Tryz.ntmps28
      go_wp2
      refine bodyPost_ret (v := .tuple #[.agg (vc 0 0 ⟨#[]⟩), .int .i64 0, .iface 50 (.int .i64 1)]) (by simp [results, Tryz.results28, go_sem]; try first | exact ⟨rfl, rfl⟩ | rfl) rfl ?_
      exact ⟨0, 0, ⟨#[]⟩, none, none, 0, 0, 0, 0, rfl, by first | exact below_box _ _ | exact below_set5 (below_box _ _) (Nat.le_refl _) _ _ _ _ _, hid (repIn_0 _ _ _)⟩
  · have h1 : ¬ (60000 : Int) < s.size := by omega
    have h2 : ¬ a < 0 := by omega
    have h3 : ¬ (s.size : Int) < a := by omega
    obtain ⟨k, rfl⟩ : ∃ k : Nat, a = k := ⟨a.toNat, by omega⟩
    have HP := hid (show pV s k = if (rdV s 8 k).2.1 ≠ 0 then (V0 0 0 eB, (rdV s 8 k).2.1, 0) else if faultV (rdV s 8 k).1 ≠ 0 then (V0 0 0 eB, faultV (rdV s 8 k).1, 0) else rdV s 8 k by unfold pV; rw [if_neg hb, Int.toNat_natCast])
    clear hb
    have hv := fun (P : Nat) (w : World) (hE : Env m P w) (hR : RdAt w P s k) => yValue m P s (by omega) 8 1 (by omega) (by omega) w k hE hR (by omega)
    have HF := hid (rdV_fits s 8 k (by omega))
    generalize rdV s 8 k = r at HP hv HF
    obtain ⟨v, e1, z⟩ := r
    unfold Said at hv
    simp only at hv
    have HN0 := hid (Nest.new w s k)
    have HR0 := hid HN0.out.at_
    have HE0 := hid (((hG.below (below_box w (.cells (vc 0 0 ⟨#[]⟩) 40))).env (P := w.heap.size + 1) (by simp)).upTo (by
      have := below_box (w.alloc (.cells (vc 0 0 ⟨#[]⟩) 40)) (.cells #[.string s, .int .i64 k] 104)
      rwa [show (w.alloc (.cells (vc 0 0 ⟨#[]⟩) 40)).heap.size = w.heap.size + 1 by simp] at this))
    by_cases he : e1 = 0
    · subst he
      rw [errN_0] at hv
      have HC := hid (show v.cnt ≤ 1048576 by have := HF.out rfl; simp only at this; omega)
      by_cases hf : faultV v = 0
      · have HP2 := hid (show pV s k = (v, 0, z) by rw [HP.out, if_neg (by simp), if_neg (by simp [hf])])
        rw [HP2.out]
        have HFV := hid hf
        clear HP
        go_enter Tryz.func28, Tryz.ntmps28
        go_wp2_with (first | (go_at_call 55; go_must (refine (hv (w.heap.size + 1) _ HE0.out HR0.out).mono ?_); rintro e w1 ⟨k1, n1, t1, a1, a2, l1, c1, l2, c2, J, rfl, hm, HQ⟩; (have hN1 := HN0.out.moved hm); (have hz1 := hN1.lt1); (have hNa := hN1.below' (below_box w1 (.cells #[.int .i64 k1, .int .i64 n1, .string t1, .slice a1 l1 c1, .slice a2 l2 c2] 40))); obtain ⟨⟨bx0, bx1, bx2, bx3, bx4⟩, bf0, bf1, bf2, bf3, bf4⟩ := box5 hNa.box; (have rc1 := hNa.at_.c1)) | (go_at_call 56; (have hq3 := (HQ.out (by first | rfl | trivial)).2.2); go_must (refine (check_says (d := 9) (v := v) (cs := [.int .i64 k1, .int .i64 n1, .string t1, .slice a1 l1 c1, .slice a2 l2 c2]) (hq3.now.later (below_box w1 _)) HC.out).mono ?_); rintro e w2 ⟨he2, hb2⟩; rw [HFV.out, errN_0] at he2; subst he2; (have hNb := hNa.below' hb2); obtain ⟨⟨by0, by1, by2, by3, by4⟩, bg0, bg1, bg2, bg3, bg4⟩ := box5 hNb.box; (have rd1 := hNb.at_.c1); (have hVb := At.later (At.new w1 #[.int .i64 k1, .int .i64 n1, .string t1, .slice a1 l1 c1, .slice a2 l2 c2] 40 rfl) hb2); obtain ⟨⟨vy0, vy1, vy2, vy3, vy4⟩, _⟩ := five_cells hVb))
        have HQ3 := hid hq3
        have HJ := hid (HQ.out (by first | rfl | trivial)).1
        clear hq3
        go_region
        all_goals
          go_wp2
          obtain ⟨hM5, hB5, hS5, hO5⟩ := hNb.fill5 (.int .i64 k1) (.int .i64 n1) (.string t1) (.slice a1 l1 c1) (.slice a2 l2 c2) rfl
          unfold set5 at hM5 hB5 hS5 hO5
          generalize World.setCell _ _ _ = wf at hM5 hB5 hS5 hO5 ⊢
          have hB6 : At wf.drew w.heap.size 40 #[.int .i64 k1, .int .i64 n1, .string t1, .slice a1 l1 c1, .slice a2 l2 c2] := hB5
          obtain ⟨⟨cx0, cx1, cx2, cx3, cx4⟩, _⟩ := five_cells hB6
          refine bodyPost_ret (v := .tuple #[.agg #[.int .i64 k1, .int .i64 n1, .string t1, .slice a1 l1 c1, .slice a2 l2 c2], .int .i64 J, .nilIface]) (by simp [results, Tryz.results28, go_sem, cx0, cx1, cx2, cx3, cx4]; try first | exact ⟨rfl, rfl⟩ | rfl) rfl ?_
          have hwf : w1.heap.size ≤ wf.heap.size := by have := hb2.size; simp at this; omega
          refine ⟨k1, n1, t1, a1, a2, l1, c1, l2, c2, by rw [HJ.out]; rfl, hM5.drew, hid ((HQ3.out.agree (w' := wf.drew) hwf fun b hb => ?_).mono fun b hb => ⟨by have := hb.1; simp at this; omega, Nat.lt_of_lt_of_le hb.2 hwf⟩)⟩
          · show wf.heap[b]? = _
            have h1 := hb.1
            simp at h1
            rw [hO5 b (by omega), hb2.block b (by have := hb.2; simp; omega), heap_alloc_old _ _ hb.2]
      · have HP2 := hid (show pV s k = (V0 0 0 eB, faultV v, 0) by rw [HP.out, if_neg (by simp), if_pos hf])
        rw [HP2.out]
        have HX := hid hf
        have hfe := errN_pos hf
        unfold errV at hfe
        have HFE := hid hfe
        clear hfe hf HP
        go_enter Tryz.func28, Tryz.ntmps28
        go_wp2_with (first | (go_at_call 55; go_must (refine (hv (w.heap.size + 1) _ HE0.out HR0.out).mono ?_); rintro e w1 ⟨k1, n1, t1, a1, a2, l1, c1, l2, c2, J, rfl, hm, HQ⟩; (have hN1 := HN0.out.moved hm); (have hz1 := hN1.lt1); (have hNa := hN1.below' (below_box w1 (.cells #[.int .i64 k1, .int .i64 n1, .string t1, .slice a1 l1 c1, .slice a2 l2 c2] 40))); obtain ⟨⟨bx0, bx1, bx2, bx3, bx4⟩, bf0, bf1, bf2, bf3, bf4⟩ := box5 hNa.box; (have rc1 := hNa.at_.c1)) | (go_at_call 56; (have hq3 := (HQ.out (by first | rfl | trivial)).2.2); go_must (refine (check_says (d := 9) (v := v) (cs := [.int .i64 k1, .int .i64 n1, .string t1, .slice a1 l1 c1, .slice a2 l2 c2]) (hq3.now.later (below_box w1 _)) HC.out).mono ?_); rintro e w2 ⟨he2, hb2⟩; rw [HFE.out] at he2; subst he2; (have hNb := hNa.below' hb2); obtain ⟨⟨by0, by1, by2, by3, by4⟩, bg0, bg1, bg2, bg3, bg4⟩ := box5 hNb.box; (have rd1 := hNb.at_.c1); (have hVb := At.later (At.new w1 #[.int .i64 k1, .int .i64 n1, .string t1, .slice a1 l1 c1, .slice a2 l2 c2] 40 rfl) hb2); obtain ⟨⟨vy0, vy1, vy2, vy3, vy4⟩, _⟩ := five_cells hVb))
        obtain ⟨hM5, hB5⟩ := hNb.fillZ
        generalize World.setCell _ _ _ = wf at hB5 hM5 ⊢
        obtain ⟨⟨cx0, cx1, cx2, cx3, cx4⟩, _⟩ := box5 hB5
        refine bodyPost_ret (v := .tuple #[.agg (vc 0 0 ⟨#[]⟩), .int .i64 0, .iface 50 (.int .i64 (faultV v))]) (by simp [results, Tryz.results28, go_sem, cx0, cx1, cx2, cx3, cx4]; try first | exact ⟨rfl, rfl⟩ | rfl) rfl ?_
        exact ⟨0, 0, ⟨#[]⟩, none, none, 0, 0, 0, 0, by rw [HFE.out]; rfl, hM5, hid (repIn_0 _ _ _)⟩
    · have HP2 := hid (show pV s k = (V0 0 0 eB, e1, 0) by rw [HP.out, if_pos he])
      rw [HP2.out]
      have HX := hid he
      rw [errN_pos he] at hv
      unfold errV at hv
      clear HP he
      go_enter Tryz.func28, Tryz.ntmps28
      go_wp2_with ((go_at_call 55; go_must (refine (hv (w.heap.size + 1) _ HE0.out HR0.out).mono ?_); rintro e w1 ⟨k1, n1, t1, a1, a2, l1, c1, l2, c2, J, rfl, hm, HQ⟩; (have hN1 := HN0.out.moved hm); (have hz1 := hN1.lt1); (have hNa := hN1.below' (below_box w1 (.cells #[.int .i64 k1, .int .i64 n1, .string t1, .slice a1 l1 c1, .slice a2 l2 c2] 40))); obtain ⟨⟨bx0, bx1, bx2, bx3, bx4⟩, bf0, bf1, bf2, bf3, bf4⟩ := box5 hNa.box; (have rc1 := hNa.at_.c1)))
      obtain ⟨hM5, hB5⟩ := hNa.fillZ
      generalize World.setCell _ _ _ = wf at hB5 hM5 ⊢
      obtain ⟨⟨cx0, cx1, cx2, cx3, cx4⟩, _⟩ := box5 hB5
      refine bodyPost_ret (v := .tuple #[.agg (vc 0 0 ⟨#[]⟩), .int .i64 0, .iface 50 (.int .i64 e1)]) (by simp [results, Tryz.results28, go_sem, cx0, cx1, cx2, cx3, cx4]; try first | exact ⟨rfl, rfl⟩ | rfl) rfl ?_
      exact ⟨0, 0, ⟨#[]⟩, none, none, 0, 0, 0, 0, by rw [errN_pos HX.out]; rfl, hM5, hid (repIn_0 _ _ _)⟩
end Go.Proofs.YtflcibmjblioaaaGreatDoor

/-
  A table is read (file.readTable).
-/
namespace Go.Proofs.YtflcibmjblioaaaGreatDoor
open Go.RowKit Go.Lib Go.Maps
set_option maxRecDepth 1000000

/-- What spans tell. -/
def tellS (m : Int → Option Int) : List (Nat × List Nat) → (Int → Option Int)
  | [] => m
  | x :: sp => tellS (tellL m (x.1 : Int) x.2) sp
theorem tellS_snoc : ∀ (sp : List (Nat × List Nat)) (m : Int → Option Int) (x : Nat × List Nat), tellS m (sp ++ [x]) = tellL (tellS m sp) (x.1 : Int) x.2
  | [], _, _ => rfl
  | y :: sp, m, x => by
    rw [List.cons_append, tellS, tellS_snoc sp]
    rfl
/-- A word was taken; what lies ahead. -/
def Ahead (s : ByteArray) (t : List UInt8) (pos : Nat) (b c : Nat) : List (Nat × List Nat) → Prop
  | [] => t = trailW ∧ pos = c
  | x :: sp => t = Lib.decDigits x.1 ∧ ∃ b2 d, TokF s pos (Lib.decDigits x.2.length) b2 ∧ RdEnts s b2 x.2 d ∧ RdSps s d sp b
theorem ahead {s : ByteArray} {a b c : Nat} {sp : List (Nat × List Nat)} (h : RdSps s a sp b) (hT : TokF s b trailW c) : ∃ t pos, TokF s a t pos ∧ t ≠ [] ∧ Ahead s t pos b c sp := by
  cases sp with
  | nil =>
    have h : a = b := h
    subst h
    exact ⟨_, _, hT, by decide, rfl, rfl⟩
  | cons x sp =>
    obtain ⟨d, ⟨b1, b2, h1, h2, h3⟩, h4⟩ := h
    exact ⟨_, _, h1, dec_ne _, rfl, b2, d, h2, h3, h4⟩
theorem tok_le {s : ByteArray} {a b : Nat} {t : List UInt8} (h : TokF s a t b) : a + t.length ≤ b := by
  obtain ⟨p, h1, h2, h3, h4, h5⟩ := h
  unfold skipP at h1
  omega
theorem ents_le {s : ByteArray} : ∀ {ps : List Nat} {a b : Nat}, RdEnts s a ps b → a ≤ b
  | [], a, b, h => Nat.le_of_eq h
  | p :: ps, a, b, h => by
    obtain ⟨c, ⟨b1, b2, h1, h2, h3⟩, h4⟩ := h
    have q1 := tok_le h1
    have q2 := tok_le h2
    have q3 := tok_le h3
    have q4 := ents_le h4
    omega
/-- How far a reader has to go. -/
def farF (P : Nat) (w : World) : Nat := match w.cell? ⟨P, 1, none⟩ with | some (.int _ n) => 200000 - n.toNat | _ => 0
theorem farF_eq {P : Nat} {w : World} {s : ByteArray} {a : Nat} (h : RdF w P s a) : farF P w = 200000 - a := by
  have c1 := At.cell h 1
  simp at c1
  unfold farF
  rw [c1]; simp
theorem dec_no (n : Nat) : (Lib.decDigits n == [116, 114, 97, 105, 108, 101, 114]) = false := by
  rw [beq_eq_false_iff_ne]
  intro e
  have h := dec_all n
  rw [e] at h
  exact absurd h (by decide)
theorem KeepS.set {S : Nat → Prop} {P : Nat} {w w' : World} (h : KeepS S w w') (hP : S P) (o : Nat) (v : Value) : KeepS S w (w'.setCell ⟨P, o, none⟩ v) := h.trans (.but ((KeepBut.refl P w').set o v) hP)
theorem KeepS.alloc {S : Nat → Prop} {w w' : World} (h : KeepS S w w') (o : Obj) : KeepS S w (w'.alloc o) := h.trans (.of (below_box w' o))
theorem KeepS.wide {S T : Nat → Prop} {w w1 w2 : World} (h : KeepS S w w1) (k : KeepS T w1 w2) (hT : ∀ i, i < w.heap.size → T i → S i) : KeepS S w w2 :=
  ⟨k.os.trans h.os, k.tape.trans h.tape, k.output.trans h.output, Nat.le_trans h.size k.size, fun i hi hp => (k.block i (Nat.lt_of_lt_of_le hi h.size) (fun q => hp (hT i hi q))).trans (h.block i hi hp)⟩
theorem table_end {w w2 wr W w5 Wf : World} {mb n N : Nat} {m : Int → Option Int} {v : V} {cs : List Value} (hB : Below w.heap.size w w2) (hK : KeepS (fun k => k = w.heap.size + 1 ∨ k = mb) w2 wr) (h5 : Below wr.heap.size wr w5) (hW : wr.heap.size ≤ W.heap.size) (hn : n ≤ N) (hM : MapZ wr mb n m)
    (H5 : Hid (RepIn (fun x => W.heap.size ≤ x ∧ x < w5.heap.size) 9 w5 v cs)) (hf : KeepS (fun k => k = w.heap.size ∨ (k = wr.heap.size ∧ k < W.heap.size)) w5 Wf) (hmb : mb < w.heap.size) (hl : w.heap.size < wr.heap.size) :
    Hid (RepIn (fun b => w.heap.size ≤ b ∧ b < Wf.heap.size) 9 Wf v cs) ∧ (∃ n', n' ≤ N ∧ MapZ Wf mb n' m) ∧ KeepS (fun k => k = mb) w Wf := by
  refine ⟨hid ((H5.out.agree hf.size fun b hb => hf.block b hb.2 (by rintro (h | ⟨h1, h2⟩) <;> have := hb.1 <;> omega)).mono fun b hb => ⟨by have := hb.1; omega, Nat.lt_of_lt_of_le hb.2 hf.size⟩), ⟨n, hn, (hM.later h5).keepS hf (by omega)⟩, ?_⟩
  refine (((KeepS.of hB).wide hK ?_).wide (.of (S := fun _ => False) h5) ?_).wide hf ?_
  · rintro i hi (h | h)
    · omega
    · exact h
  · rintro i hi h
    exact h.elim
  · rintro i hi (h | ⟨h, _⟩) <;> omega
set_option maxHeartbeats 6000000 in
theorem readTable_says (M : Int) (F mb n : Nat) (s : ByteArray) (a b c z : Nat) (sp : List (Nat × List Nat)) (v : V) (tb : Int) (c0 c1 c2 c3 c4 : Value) (m : Int → Option Int) (w0 w : World) (hs : s.size ≤ 60000) (hsp : ∀ x ∈ sp, x.1 < 100 ∧ x.2.length < 100 ∧ ∀ p ∈ x.2, p < 100000) (hn : n + 100 * sp.length < 50000)
    (hW : wordP s a = ⟨xrefW.toArray⟩) (ha : a ≤ s.size) (hS : RdSps s (a + 4) sp b) (hT : TokF s b trailW c) (hV : pV s (c : Int) = (v, 0, z)) (hk : v.k = 6) (hG : Gr M w0) (hBw : Below w0.heap.size w0 w) (hmb : w0.heap.size ≤ mb) (hF : FileAt w F s (.map (some mb)) tb c0 c1 c2 c3 c4) (hM : MapZ w mb n m) (hFm : F ≠ mb) :
    Calls Tryz.prog 49 #[.pointer (some ⟨F, 0, none⟩), .int .i64 (a : Int)] w fun e w' => ∃ (k q : Int) (t : ByteArray) (a1 a2 : Option Addr) (l1 p1 l2 p2 : Nat), e = .returned (.tuple #[.agg #[.int .i64 k, .int .i64 q, .string t, .slice a1 l1 p1, .slice a2 l2 p2], .nilIface]) ∧
      Hid (RepIn (fun b => w.heap.size ≤ b ∧ b < w'.heap.size) 9 w' v [.int .i64 k, .int .i64 q, .string t, .slice a1 l1 p1, .slice a2 l2 p2]) ∧ (∃ n', n' ≤ n + 100 * sp.length ∧ MapZ w' mb n' (tellS m sp)) ∧ KeepS (fun k => k = mb) w w' := by
  have hs2 : s.size ≤ 100000 := by omega
  obtain ⟨t0, p0, hT0, hne0, hA0⟩ := ahead hS hT
  have T0 := hid hT0
  have HA0 := hid hA0
  have HF := hid hF
  have HM := hid hM
  have HG := hid hG
  have HW := hid hW
  have HSP := hid hsp
  have HV := hid hV
  have hT' := hid hT
  have hFl := hF.lt
  have hml := hM.lt
  have fc := hF.cell 0
  simp at fc
  clear hT0 hA0 hF hM hG hW hsp hV hS hT
  go_enter Tryz.func49, Tryz.ntmps49
  go_wp2_with (go_at_call 48; fail)
  go_at_call 48
  refine (word_f _ ha hs2 HW.out).mono ?_
  rintro e w1 ⟨rfl, rfl⟩
  go_wp2_with (go_at_call 21; fail)
  have hB0 : Below w.heap.size w ((w.alloc (.cells (vc 0 0 ⟨#[]⟩) 40)).alloc (.cells #[.string s, .int .i64 ((a : Int) + 4)] 56)) := Below.trans (below_box w _) ((below_box _ _).mono (by simp))
  have hC0 : At ((w.alloc (.cells (vc 0 0 ⟨#[]⟩) 40)).alloc (.cells #[.string s, .int .i64 ((a : Int) + 4)] 56)) w.heap.size 40 (vc 0 0 ⟨#[]⟩) := (At.new w _ _ rfl).alloc _
  have hR0 : RdF ((w.alloc (.cells (vc 0 0 ⟨#[]⟩) 40)).alloc (.cells #[.string s, .int .i64 ((a : Int) + 4)] 56)) (w.heap.size + 1) s (a + 4) := by
    have := At.new (w.alloc (.cells (vc 0 0 ⟨#[]⟩) 40)) #[.string s, .int .i64 ((a : Int) + 4)] 56 rfl
    rwa [show (w.alloc (.cells (vc 0 0 ⟨#[]⟩) 40)).heap.size = w.heap.size + 1 by simp] at this
  change Calls _ _ _ ((w.alloc (.cells (vc 0 0 ⟨#[]⟩) 40)).alloc (.cells #[.string s, .int .i64 ((a : Int) + 4)] 56)) _
  generalize (w.alloc (.cells (vc 0 0 ⟨#[]⟩) 40)).alloc (.cells #[.string s, .int .i64 ((a : Int) + 4)] 56) = w2 at hB0 hC0 hR0 ⊢
  go_at_call 21
  refine (fwordT T0.out _ w2 hs2 hR0).mono ?_
  rintro e w3 ⟨rfl, hR3, hK3⟩
  have hml2 : mb ≠ w.heap.size + 1 := by omega
  have hFl2 : F ≠ w.heap.size + 1 := by omega
  have HO := hid (show EntRes (w.heap.size + 1) mb s p0 (n + 100 * 0) (tellS m []) w2 w3 from ⟨⟨n, Nat.le_refl _, (HM.out.later hB0).but hK3 hml2⟩, hR3, .but hK3 (.inl rfl)⟩)
  have HF2 := hid (HF.out.later hB0)
  have HC := hid hC0
  have HB := hid hB0
  clear hB0 hC0 hR0 hR3 hK3 T0 HM HF HW fc
  go_wp2_with fail
  go_loopw [7] (fun t wr => ∃ (tk : List UInt8) (pos : Nat) (done rest : List (Nat × List Nat)), t = .string ⟨tk.toArray⟩ ∧ Hid (sp = done ++ rest) ∧ Hid (Ahead s tk pos b c rest) ∧ Hid (EntRes (w.heap.size + 1) mb s pos (n + 100 * done.length) (tellS m done) w2 wr)) (fun _ wr => farF (w.heap.size + 1) wr)
  case atStart => exact ⟨t0, p0, [], sp, rfl, hid rfl, HA0, HO⟩
  case round =>
    obtain ⟨tk, pos, done, rest, rfl, HE, HA, HR⟩ := hrel
    clear HO HA0
    cases rest with
    | cons x rest =>
      obtain ⟨rfl, b2, d, hq1, hq2, hq3⟩ := HA.out
      have hno := dec_no x.1
      have hlen : done.length + 1 ≤ sp.length := by rw [HE.out]; simp
      obtain ⟨⟨n', hn', hMz⟩, hRc, hKc⟩ := HR.out
      obtain ⟨hx1, hx2, hx3⟩ := HSP.out x (by rw [HE.out]; simp)
      have hF3 := hKc.at_ HF2.out (by simp [hFl2, hFm])
      have HX := hid (readSpan_says F (w.heap.size + 1) mb n' s pos b2 d x tb c0 c1 c2 c3 c4 _ wr hs2 hx1 hx2 hx3 (by omega) hq1 hq2 hF3 hMz hRc hFl2 hFm (Ne.symm hml2))
      obtain ⟨t1, p1, ht1, hne1, hA1⟩ := ahead hq3 hT'.out
      have HP := hid (show pos < p1 from by
        have := tok_le hq1
        have := ents_le hq2
        have := tok_le ht1
        have := List.length_pos_iff.2 hne1
        omega)
      have HQ := hid hRc
      have T1 := hid ht1
      have HA1 := hid hA1
      have HKc := hid hKc
      have HT := hid (tellS_snoc done m x)
      clear hq1 hq2 hq3 hMz hRc hKc hx3 hF3 ht1 hA1 HR HA
      go_wp2_with (go_at_call 80; refine HX.out.mono ?_; rintro e w4 ⟨rfl, h4⟩; have H4 := hid h4; clear h4)
      go_at_call 21
      obtain ⟨hm4, hr4, hk4⟩ := H4.out
      refine (fwordT T1.out _ w4 hs2 hr4).mono ?_
      rintro e w5 ⟨rfl, hR5, hK5⟩
      have HR5 := hid hR5
      have HK5 := hid hK5
      clear hm4 hr4 hk4 hR5 hK5
      go_wp2_with fail
      go_roundw
      case rel =>
        obtain ⟨⟨n2, hn2, hm4⟩, hr4, hk4⟩ := H4.out
        exact ⟨t1, p1, done ++ [x], rest, rfl, hid (by rw [HE.out]; simp), HA1, hid ⟨⟨n2, by simp; omega, by rw [HT.out]; exact hm4.but HK5.out hml2⟩, HR5.out, (HKc.out.trans hk4).trans (.but HK5.out (.inl rfl))⟩⟩
      case measure =>
        have q1 := farF_eq HQ.out
        have q2 := farF_eq HR5.out
        have q3 := HP.out
        have q4 : p1 ≤ s.size := by obtain ⟨_, _, _, _, _, q, _⟩ := T1.out; exact q
        simp only [q1, q2]; omega
    | nil =>
      obtain ⟨rfl, rfl⟩ := HA.out
      rw [List.append_nil] at HE
      have e := HE.out
      subst e
      obtain ⟨⟨n', hn', hMz⟩, hRc, hKc⟩ := HR.out
      have hF3 := hKc.at_ HF2.out (by simp [hFl2, hFm])
      have hC3 := hKc.at_ HC.out (by simp; omega)
      have hBr := hKc.below (w0 := w0) (hBw.trans (HB.out.mono hBw.size)) (by have := hBw.size; rintro k (rfl | rfl) <;> omega)
      have HGr := hid (HG.out.below hBr)
      have HMz := hid hMz
      have HKc := hid hKc
      have HC3 := hid hC3
      clear hMz hKc hBr HR HA HC HF2
      have fc := hF3.cell 0
      have rc := hRc.cell 1
      have cc := hC3.cell
      have cz := hC3.lt
      simp at fc rc
      go_wp2_with fail
      have rl := hRc.lt
      have fl := hF3.lt
      have HB2 := hid HB.out
      have HX := hid (fun W (hb : Below wr.heap.size wr W) => (pValueI M s (pos : Int) W (by unfold maxLen; omega) (HGr.out.below hb)).mono (fun e w' (h : SaidI W _ e w') => by
        rw [HV.out] at h
        unfold SaidI at h
        simp only [errN_0] at h
        obtain ⟨k, q, t, a1, a2, l1, p1, l2, p2, h1, h2, h3⟩ := h
        have hk6 : k = 6 := by
          obtain ⟨_, _, _, _, he, _⟩ := h3.out.now
          simp at he
          rw [he.1, hk]
        subst hk6
        exact (⟨q, t, a1, a2, l1, p1, l2, p2, h1, h2, hb.trans (h2.mono hb.size), hb.size, h3⟩ : ∃ (q : Int) (t : ByteArray) (a1 a2 : Option Addr) (l1 p1 l2 p2 : Nat), e = .returned (.tuple #[.agg #[.int .i64 6, .int .i64 q, .string t, .slice a1 l1 p1, .slice a2 l2 p2], .int .i64 (z : Nat), .nilIface]) ∧ Below W.heap.size W w' ∧ Below wr.heap.size wr w' ∧ wr.heap.size ≤ W.heap.size ∧ Hid (RepIn (fun x => W.heap.size ≤ x ∧ x < w'.heap.size) 9 w' v [.int .i64 6, .int .i64 q, .string t, .slice a1 l1 p1, .slice a2 l2 p2]))))
      go_region_with (go_at_call 28; refine (HX.out _ (Below.drew (by go_grown))).mono ?_; rintro e w5 ⟨q, t, a1, a2, l1, p1, l2, p2, rfl, hb5, hB5, hW5, H5⟩; (try ((have A5 : At w5 wr.heap.size 40 (vc 0 0 ⟨#[]⟩) := At.later (At.new wr.drew _ _ rfl) hb5); (obtain ⟨⟨cy0, cy1, cy2, cy3, cy4⟩, cz0, cz1, cz2, cz3, cz4⟩ := five_cells A5))); (have C5 := HC3.out.later hB5); (obtain ⟨⟨cx0, cx1, cx2, cx3, cx4⟩, cw0, cw1, cw2, cw3, cw4⟩ := five_cells C5); (have lx := C5.lt))
      all_goals
        clear HX HGr fc rc cc rl fl
        first
        | (have hQ := At.five A5 (.int .i64 6) (.int .i64 q) (.string t) (.slice a1 l1 p1) (.slice a2 l2 p2)
           have hR : At (set5 w5 wr.heap.size (.int .i64 6) (.int .i64 q) (.string t) (.slice a1 l1 p1) (.slice a2 l2 p2)) w.heap.size 40 (vc 0 0 ⟨#[]⟩) := (set5_other _ _ _ _ _ _ _ (by omega)).trans C5
           have hKq : KeepS (fun k => k = w.heap.size ∨ (k = wr.heap.size ∧ k < (wr.drew.alloc (.cells (vc 0 0 ⟨#[]⟩) 40)).heap.size)) w5 (set5 w5 wr.heap.size (.int .i64 6) (.int .i64 q) (.string t) (.slice a1 l1 p1) (.slice a2 l2 p2)) := (((((KeepS.refl _ w5).set (.inr ⟨rfl, by simp⟩) 0 _).set (.inr ⟨rfl, by simp⟩) 1 _).set (.inr ⟨rfl, by simp⟩) 2 _).set (.inr ⟨rfl, by simp⟩) 3 _).set (.inr ⟨rfl, by simp⟩) 4 _
           unfold set5 at hQ hR hKq
           generalize World.setCell _ _ _ = wq at hQ hR hKq ⊢
           clear A5 cy0 cy1 cy2 cy3 cy4 cz0 cz1 cz2 cz3 cz4)
        | (have hQ := At.new w5 #[.int .i64 6, .int .i64 q, .string t, .slice a1 l1 p1, .slice a2 l2 p2] 40 rfl
           have hR := C5.alloc (.cells #[.int .i64 6, .int .i64 q, .string t, .slice a1 l1 p1, .slice a2 l2 p2] 40)
           have hKq : KeepS (fun k => k = w.heap.size ∨ (k = wr.heap.size ∧ k < wr.drew.heap.size)) w5 (w5.alloc (.cells #[.int .i64 6, .int .i64 q, .string t, .slice a1 l1 p1, .slice a2 l2 p2] 40)) := (KeepS.refl _ w5).alloc _
           generalize w5.alloc (.cells #[.int .i64 6, .int .i64 q, .string t, .slice a1 l1 p1, .slice a2 l2 p2] 40) = wq at hQ hR hKq ⊢)
      all_goals
        clear cx0 cx1 cx2 cx3 cx4 cw0 cw1 cw2 cw3 cw4 C5
        have zq := hQ.lt
        have zr := hR.lt
        obtain ⟨⟨cq0, cq1, cq2, cq3, cq4⟩, _⟩ := five_cells hQ
        obtain ⟨⟨cx0, cx1, cx2, cx3, cx4⟩, cw0, cw1, cw2, cw3, cw4⟩ := five_cells hR
        go_wp2_with fail
        have hZ := At.five hR (.int .i64 6) (.int .i64 q) (.string t) (.slice a1 l1 p1) (.slice a2 l2 p2)
        have hKz := ((((hKq.set (.inl rfl) 0 (.int .i64 6)).set (.inl rfl) 1 (.int .i64 q)).set (.inl rfl) 2 (.string t)).set (.inl rfl) 3 (.slice a1 l1 p1)).set (.inl rfl) 4 (.slice a2 l2 p2)
        unfold set5 at hZ
        generalize World.setCell _ _ _ = wf at hZ hKz ⊢
        clear cx0 cx1 cx2 cx3 cx4 cw0 cw1 cw2 cw3 cw4 cq0 cq1 cq2 cq3 cq4
        obtain ⟨⟨cx0, cx1, cx2, cx3, cx4⟩, _⟩ := five_cells hZ
        refine bodyPost_ret (v := .tuple #[.agg #[.int .i64 6, .int .i64 q, .string t, .slice a1 l1 p1, .slice a2 l2 p2], .nilIface]) (by simp [results, Tryz.results49, go_sem, cx0, cx1, cx2, cx3, cx4]; try first | exact ⟨rfl, rfl⟩ | rfl) rfl ?_
        exact ⟨6, q, t, a1, a2, l1, p1, l2, p2, rfl, table_end HB2.out HKc.out hB5 hW5 (by omega) HMz.out H5 hKz hml cz⟩
end Go.Proofs.YtflcibmjblioaaaGreatDoor

/-
  A whole number of a table's last words (file.whole).
-/
namespace Go.Proofs.YtflcibmjblioaaaGreatDoor
open Go.RowKit Go.Lib Go.Maps
set_option maxRecDepth 1000000

set_option maxHeartbeats 2000000 in
theorem fwhole_says (x : Nat) (t : ByteArray) (a1 a2 : Option Addr) (l1 p1 l2 p2 : Nat) (w : World) (hx : x ≤ 100000) :
    Calls Tryz.prog 50 #[.agg #[.int .i64 2, .int .i64 ((x : Int) * 1000), .string t, .slice a1 l1 p1, .slice a2 l2 p2]] w fun e w' => e = .returned (.tuple #[.int .i64 (x : Int), .bool true]) ∧ Below w.heap.size w w' := by
  have h1 : ¬ ((x : Int) * 1000 < 0) := by omega
  have h2 : ((x : Int) * 1000).tmod 1000 = 0 := by rw [Int.tmod_eq_emod_of_nonneg (by omega)]; omega
  have h3 : ((x : Int) * 1000).tdiv 1000 = x := by rw [Int.tdiv_eq_ediv_of_nonneg (by omega)]; omega
  go_enter Tryz.func50, Tryz.ntmps50
  go_wp2
  go_ret2
  exact ⟨rfl, by first | exact below_box _ _ | go_grown⟩
end Go.Proofs.YtflcibmjblioaaaGreatDoor
