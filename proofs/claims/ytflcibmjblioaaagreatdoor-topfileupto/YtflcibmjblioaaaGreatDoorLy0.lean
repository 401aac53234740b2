/-
  Joined: Lp, Kk, Ly0.
-/
import Derived.Test.YtflcibmjblioaaaGreatDoorLo
import Derived.Test.YtflcibmjblioaaaGreatDoorLe
import Derived.Test.YtflcibmjblioaaaGreatDoorVd5
import Derived.Test.YtflcibmjblioaaaGreatDoorLze
import Derived.Test.YtflcibmjblioaaaGreatDoorPa

/-
  An object is read (file's Get): the walk.
-/
namespace Go.Proofs.YtflcibmjblioaaaGreatDoor
open Go.RowKit Go.Lib Go.Maps
set_option maxRecDepth 1000000

set_option maxHeartbeats 2000000 in
theorem get_says (M : Int) (B E F : Nat) (s : ByteArray) (tb : Int) (lv : V) (m : Int → Option Int) (o : Ob) (p : Nat) (w : World) (hs : s.size ≤ 60000) (hF : FileR B E F s tb lv m w) (hm : m o.n = some (p : Int)) (hO : RdOb s p o) (hob : obF o = 0) (hG : Gr M w) :
    Calls Tryz.prog 13 #[.pointer (some ⟨F, 0, none⟩), .int .i64 o.n] w fun e w' => ∃ cs, e = .returned (.tuple #[.agg (obC o.n cs o.st o.dt).toArray, .nilIface]) ∧ Hid (RepIn (fun b => w.heap.size ≤ b ∧ b < w'.heap.size) 9 w' (lvR o).1 cs) ∧ Below w.heap.size w w' := by
  obtain ⟨hn, h2, hf⟩ := obF_parts hob
  obtain ⟨mb, n, c0, c1, c2, c3, c4, hF1, _, hM, _, _, _, _, _, _, _⟩ := hF
  obtain ⟨b1, b2, b3, z, b4, t1, t2, t3, hpv, hE1, hE2⟩ := hO
  have hcnt := (fault_parts hf).2.1
  have T1 := hid t1
  have T2 := hid t2
  have T3 := hid t3
  have HV := hid hpv
  have HE1 := hid hE1
  have HE2 := hid hE2
  have HG := hid hG
  have HF := hid hF1
  have hFl := hF1.lt
  have HN := hid hn
  have H2 := hid h2
  have hl := hM.look (x := o.n) (by omega)
  rw [hm] at hl
  simp only [Option.getD_some, Option.isSome_some] at hl
  have fc1 : (w.alloc (.cells #[.int .i64 0, .int .i64 0, .int .i64 0, .string ⟨#[]⟩, .slice none 0 0, .slice none 0 0, .bool false, .string ⟨#[]⟩] 42)).cell? ⟨F, 1, none⟩ = some (.map (some mb)) := by
    have := (hF1.alloc (.cells #[.int .i64 0, .int .i64 0, .int .i64 0, .string ⟨#[]⟩, .slice none 0 0, .slice none 0 0, .bool false, .string ⟨#[]⟩] 42)).cell 1
    simpa using this
  have hl2 := (hM.later (below_box w (.cells #[.int .i64 0, .int .i64 0, .int .i64 0, .string ⟨#[]⟩, .slice none 0 0, .slice none 0 0, .bool false, .string ⟨#[]⟩] 42))).look (x := o.n) (by omega)
  rw [hm] at hl2
  simp only [Option.getD_some, Option.isSome_some] at hl2
  have hp0 : ¬ ((p : Int) < 0) := by omega
  clear t1 t2 t3 hpv hE1 hE2 hG hF1 hM hl
  go_enter Tryz.func13, Tryz.ntmps13
  go_upto_region 4 with fail
  have A1 := At.new w #[.int .i64 0, .int .i64 0, .int .i64 0, .string ⟨#[]⟩, .slice none 0 0, .slice none 0 0, .bool false, .string ⟨#[]⟩] 42 rfl
  have hB1 := below_box w (.cells #[.int .i64 0, .int .i64 0, .int .i64 0, .string ⟨#[]⟩, .slice none 0 0, .slice none 0 0, .bool false, .string ⟨#[]⟩] 42)
  have h1 : (w.alloc (.cells #[.int .i64 0, .int .i64 0, .int .i64 0, .string ⟨#[]⟩, .slice none 0 0, .slice none 0 0, .bool false, .string ⟨#[]⟩] 42)).heap.size = w.heap.size + 1 := by simp
  generalize w.alloc (.cells #[.int .i64 0, .int .i64 0, .int .i64 0, .string ⟨#[]⟩, .slice none 0 0, .slice none 0 0, .bool false, .string ⟨#[]⟩] 42) = w1 at A1 hB1 h1 ⊢
  clear fc1 hl2
  have fc0 := (HF.out.later hB1).cell 0
  have fl1 := (HF.out.later hB1).lt
  simp at fc0
  go_upto_region 5 with fail
  have R2 : RdF (w1.alloc (.cells #[.string s, .int .i64 (p : Int)] 56)) w1.heap.size s p := At.new w1 _ _ rfl
  have A2 := A1.alloc (.cells #[.string s, .int .i64 (p : Int)] 56)
  have hB2 : Below w.heap.size w (w1.alloc (.cells #[.string s, .int .i64 (p : Int)] 56)) := hB1.alloc hB1.size _
  rw [h1] at R2
  generalize w1.alloc (.cells #[.string s, .int .i64 (p : Int)] 56) = w2 at A2 hB2 R2 ⊢
  clear fc0 fl1 A1 hB1 h1 w1
  have hs5 : s.size ≤ 100000 := by omega
  go_wp2_with (go_at_call 21; fail)
  go_at_call 21
  refine (fwordT T1.out _ _ hs5 R2).mono ?_
  rintro e w3 ⟨rfl, R3, K3⟩
  have A3 := K3.at A2 (by omega)
  have hB3 : Below w.heap.size w w3 := (KeepS.but (S := fun k => k = w.heap.size + 1) K3 rfl).below hB2 (fun k h => by omega)
  clear K3 R2 A2 hB2 w2
  have hn := HN.out
  have hit := Tryz.strconv_Itoa o.n (by omega) (by omega) w3 ((HG.out.below hB3).rdy.1)
  clear hn
  go_wp2_with (go_at_call 27; fail)
  go_at_call 27
  refine hit.mono ?_
  rintro e w4 ⟨rfl, kk, oo, hw4⟩
  have hb4 : Below w3.heap.size w3 w4 := by rw [hw4]; exact below_grow w3 kk oo
  have R4 := R3.later hb4
  have A4 := A3.later hb4
  have hB4 : Below w.heap.size w w4 := hB3.trans (hb4.mono hB3.size)
  clear hw4 hit hb4 R3 A3 hB3 w3
  go_wp2_with (go_at_call 21; fail)
  go_at_call 21
  refine (fwordT T2.out _ _ hs5 R4).mono ?_
  rintro e w5 ⟨rfl, R5, K5⟩
  have A5 := K5.at A4 (by omega)
  have hB5 : Below w.heap.size w w5 := (KeepS.but (S := fun k => k = w.heap.size + 1) K5 rfl).below hB4 (fun k h => by omega)
  clear K5 R4 A4 hB4 w4
  go_wp2_with (go_at_call 21; fail)
  go_at_call 21
  refine (fwordT T3.out _ _ hs5 R5).mono ?_
  rintro e w6 ⟨rfl, R6, K6⟩
  have A6 := K6.at A5 (by omega)
  have hB6 : Below w.heap.size w w6 := (KeepS.but (S := fun k => k = w.heap.size + 1) K6 rfl).below hB5 (fun k h => by omega)
  clear K6 R5 A5 hB5 w5 T1 T2 T3
  unfold obWd
  go_upto_region 7 with fail
  have fc := (HF.out.later hB6).cell 0
  have fl := (HF.out.later hB6).lt
  have rc := R6.cell 1
  have rl := R6.lt
  simp at fc rc
  have HG6 := hid (HG.out.below hB6)
  have HX := hid (fun W (hb : Below w6.heap.size w6 W) => (pValueI M s (b3 : Int) W (by unfold maxLen; omega) (HG6.out.below hb)).mono (fun e w' (h : SaidI W _ e w') => by
    rw [HV.out] at h
    unfold SaidI at h
    simp only [errN_0] at h
    obtain ⟨k, q, t, a1, a2, l1, p1, l2, p2, h1, h2, h3⟩ := h
    exact (⟨k, q, t, a1, a2, l1, p1, l2, p2, h1, h2, hb.trans (h2.mono hb.size), h3⟩ : ∃ (k q : Int) (t : ByteArray) (a1 a2 : Option Addr) (l1 p1 l2 p2 : Nat), e = .returned (.tuple #[.agg #[.int .i64 k, .int .i64 q, .string t, .slice a1 l1 p1, .slice a2 l2 p2], .int .i64 (z : Nat), .nilIface]) ∧ Below W.heap.size W w' ∧ Below w6.heap.size w6 w' ∧ Hid (RepIn (fun x => W.heap.size ≤ x ∧ x < w'.heap.size) 9 w' (lvR o).1 [.int .i64 k, .int .i64 q, .string t, .slice a1 l1 p1, .slice a2 l2 p2]))))
  go_cut [9, 10, 11] from 50 to 60 (fun pq zz er wx => ∃ (Q : Nat) (k q : Int) (t : ByteArray) (a1 a2 : Option Addr) (l1 p1 l2 p2 : Nat), pq = .pointer (some ⟨Q, 0, none⟩) ∧ zz = .int .i64 (z : Nat) ∧ er = .nilIface ∧ Hid (w6.heap.size ≤ Q ∧ At wx Q 40 #[.int .i64 k, .int .i64 q, .string t, .slice a1 l1 p1, .slice a2 l2 p2] ∧ Hid (RepIn (fun b => w6.heap.size ≤ b ∧ b < wx.heap.size) 9 wx (lvR o).1 [.int .i64 k, .int .i64 q, .string t, .slice a1 l1 p1, .slice a2 l2 p2]) ∧ Below w6.heap.size w6 wx))
  case first =>
    go_region_with (go_at_call 28; refine (HX.out _ (Below.drew (by go_grown))).mono ?_; rintro e w7 ⟨k, q, t, a1, a2, l1, p1, l2, p2, rfl, hb7, hB7, H7⟩; (try ((have A7 : At w7 w6.heap.size 40 (vc 0 0 ⟨#[]⟩) := At.later (At.new w6.drew _ _ rfl) hb7); (obtain ⟨⟨cy0, cy1, cy2, cy3, cy4⟩, cz0, cz1, cz2, cz3, cz4⟩ := five_cells A7))))
    all_goals
      clear HX HG6 fc rc rl fl
      first
      | (obtain ⟨Q, eQ, hQ, hRp, hBq⟩ := got_va A7 H7 hB7
         clear A7 cy0 cy1 cy2 cy3 cy4 cz0 cz1 cz2 cz3 cz4
         unfold set5 at hQ hRp hBq
         generalize World.setCell _ _ _ = wq at hQ hRp hBq ⊢)
      | (obtain ⟨Q, eQ, hQ, hRp, hBq⟩ := got_vb H7 hB7
         generalize w7.alloc (.cells #[.int .i64 k, .int .i64 q, .string t, .slice a1 l1 p1, .slice a2 l2 p2] 40) = wq at hQ hRp hBq ⊢)
    all_goals
      have HH := hid (And.intro (show w6.heap.size ≤ Q by first | omega | (have := hB7.size; omega)) (And.intro hQ (And.intro hRp hBq)))
      clear hQ hRp hBq
      go_wp2_with fail
      go_meet
      subst eQ
      exact ⟨_, k, q, t, a1, a2, l1, p1, l2, p2, rfl, rfl, rfl, HH⟩
  case rest =>
    obtain ⟨Q, k, q, t, a1, a2, l1, p1, l2, p2, rfl, rfl, rfl, HH⟩ := hcut
    obtain ⟨hQle, hQ, hRp, hBq⟩ := HH.out
    have A7 := A6.later hBq
    have R7 := R6.later hBq
    have hB7 : Below w.heap.size w wc := hB6.trans (hBq.mono hB6.size)
    have hz6 := R6.lt
    clear HH A6 R6 hB6
    obtain ⟨⟨cq0, cq1, cq2, cq3, cq4⟩, _⟩ := five_cells hQ
    have qlt := hQ.lt
    have rlt := R7.lt
    have rf := R7.free 1
    have rc := R7.cell 1
    simp at rc
    go_upto_region 12 with fail
    have K8 : KeepS (fun k => k = w.heap.size + 1) wc (wc.setCell ⟨w.heap.size + 1, 1, none⟩ (.int .i64 (z : Int))) := (KeepS.refl (fun k => k = w.heap.size + 1) wc).set (P := w.heap.size + 1) rfl 1 _
    have R9 : RdF _ (w.heap.size + 1) s z := At.alloc (RdF.set (R7 : RdF wc (w.heap.size + 1) s b3) z) (.cells #[.int .i64 o.n, .int .i64 k, .int .i64 q, .string t, .slice a1 l1 p1, .slice a2 l2 p2, .bool false, .string ⟨#[]⟩] 42)
    have A9 := (K8.at_ A7 (by omega)).alloc (.cells #[.int .i64 o.n, .int .i64 k, .int .i64 q, .string t, .slice a1 l1 p1, .slice a2 l2 p2, .bool false, .string ⟨#[]⟩] 42)
    have Q9 := (K8.at_ hQ (by omega)).alloc (.cells #[.int .i64 o.n, .int .i64 k, .int .i64 q, .string t, .slice a1 l1 p1, .slice a2 l2 p2, .bool false, .string ⟨#[]⟩] 42)
    have O9 := At.new (wc.setCell ⟨w.heap.size + 1, 1, none⟩ (.int .i64 (z : Int))) #[.int .i64 o.n, .int .i64 k, .int .i64 q, .string t, .slice a1 l1 p1, .slice a2 l2 p2, .bool false, .string ⟨#[]⟩] 42 (b := wc.heap.size) (setCell_size _ _ _).symm
    have K9 : KeepS (fun k => k = w.heap.size + 1) wc ((wc.setCell ⟨w.heap.size + 1, 1, none⟩ (.int .i64 (z : Int))).alloc (.cells #[.int .i64 o.n, .int .i64 k, .int .i64 q, .string t, .slice a1 l1 p1, .slice a2 l2 p2, .bool false, .string ⟨#[]⟩] 42)) := K8.alloc _
    generalize (wc.setCell ⟨w.heap.size + 1, 1, none⟩ (.int .i64 (z : Int))).alloc (.cells #[.int .i64 o.n, .int .i64 k, .int .i64 q, .string t, .slice a1 l1 p1, .slice a2 l2 p2, .bool false, .string ⟨#[]⟩] 42) = w9 at R9 A9 Q9 O9 K9 ⊢
    obtain ⟨O, hO0, hO1⟩ : ∃ O, wc.heap.size ≤ O ∧ wc.heap.size = O := ⟨_, Nat.le_refl _, rfl⟩
    rw [hO1] at O9 ⊢
    have hOl : wc.heap.size ≤ O := hO0
    have HRp := hid (hRp.out.agree K9.size fun b hb => K9.block b hb.2 (by have := hb.1; omega))
    have hB9 : Below w.heap.size w w9 := K9.below hB7 (fun k h => by omega)
    have hOlt := O9.lt
    have hPO : w.heap.size + 1 < O := by omega
    have hQO : Q < O := by omega
    have hec := K9.size
    have hcO : O ≤ wc.heap.size := by omega
    clear hO1
    clear cq0 cq1 cq2 cq3 cq4 qlt rlt rf rc R7 A7 hB7 K8 hQ hBq hRp
    cases hst : o.st with
    | false =>
      have T4 := hid (HE1.out hst)
      have hdt := (lv_plain H2.out hst).2
      go_wp2_with (go_at_call 21; fail)
      go_at_call 21
      refine (fwordT T4.out _ _ hs5 R9).mono ?_
      rintro e w10 ⟨rfl, _, K10⟩
      have O10 := K10.at O9 (by omega)
      have A10 := K10.at A9 (by omega)
      have KS10 : KeepS (fun k => k = w.heap.size + 1) w9 w10 := .but K10 rfl
      have al := A10.lt
      have ol := O10.lt
      obtain ⟨⟨o0, o1, o2, o3, o4, o5, o6, o7⟩, _⟩ := eight_cells O10
      obtain ⟨⟨r0, r1, r2, r3, r4, r5, r6, r7⟩, g0, g1, g2, g3, g4, g5, g6, g7⟩ := eight_cells A10
      unfold endoW
      clear K10 R9 T4
      go_wp2_with fail
      have hZ := At.eight A10 (.int .i64 o.n) (.int .i64 k) (.int .i64 q) (.string t) (.slice a1 l1 p1) (.slice a2 l2 p2) (.bool false) (.string ⟨#[]⟩)
      have KZ := keep_set8 (w := w10) (b := w.heap.size) (.int .i64 o.n) (.int .i64 k) (.int .i64 q) (.string t) (.slice a1 l1 p1) (.slice a2 l2 p2) (.bool false) (.string ⟨#[]⟩)
      unfold set8 at hZ KZ
      generalize World.setCell _ _ _ = wf at hZ KZ ⊢
      clear r0 r1 r2 r3 r4 r5 r6 r7 o0 o1 o2 o3 o4 o5 o6 o7
      obtain ⟨⟨r0, r1, r2, r3, r4, r5, r6, r7⟩, _⟩ := eight_cells hZ
      refine bodyPost_ret (v := .tuple #[.agg #[.int .i64 o.n, .int .i64 k, .int .i64 q, .string t, .slice a1 l1 p1, .slice a2 l2 p2, .bool false, .string ⟨#[]⟩], .nilIface]) (by simp [results, Tryz.results13, go_sem, r0, r1, r2, r3, r4, r5, r6, r7]; try first | exact ⟨rfl, rfl⟩ | rfl) rfl ?_
      exact ⟨[.int .i64 k, .int .i64 q, .string t, .slice a1 l1 p1, .slice a2 l2 p2], by rw [hst, hdt]; rfl, get_end HRp.out ((KS10.mono (by intro i h; omega)).trans (KZ.mono (by intro i h; omega))) hB9 (by omega) (by omega)⟩
    | true =>
      obtain ⟨t4, rest, c', hrest, htk, hdt⟩ := HE2.out hst
      obtain ⟨elv, _, hd2⟩ := lv_stream H2.out hst
      have hbl4 : b4 ≤ s.size := by obtain ⟨_, _, _, _, _, h, _⟩ := t4; exact h
      have T4 := hid t4
      have HD := hid (And.intro hrest (And.intro htk hdt))
      have hgg : getF lenN (lvR o).1.f = some (V0 2 (o.dt.size * 1000) eB) := by rw [elv]; exact getF_pset _ _ _
      have HGG := hid hgg
      clear t4 hrest htk hdt elv hgg
      go_wp2_with (go_at_call 21; fail)
      go_at_call 21
      refine (fwordT T4.out _ _ hs5 R9).mono ?_
      rintro e w10 ⟨rfl, R10, K10⟩
      have O10 := K10.at O9 (by omega)
      have A10 := K10.at A9 (by omega)
      have Q10 := K10.at Q9 (by omega)
      have KS10 : KeepS (fun k => k = w.heap.size + 1) w9 w10 := .but K10 rfl
      have ol := O10.lt
      have of6 := O10.free 6
      have oc6 := O10.cell 6
      simp at oc6
      unfold streamW
      clear K10 R9 T4 O9 A9 Q9
      go_upto_region 17 with fail
      have K11 : KeepS (fun k => k = O) w10 (w10.setCell ⟨O, 6, none⟩ (.bool true)) := (KeepS.refl (fun k => k = O) w10).set (P := O) rfl 6 _
      have O11 : At (w10.setCell ⟨O, 6, none⟩ (.bool true)) O 42 #[.int .i64 o.n, .int .i64 k, .int .i64 q, .string t, .slice a1 l1 p1, .slice a2 l2 p2, .bool true, .string ⟨#[]⟩] := heap_setCell_same _ O 6 _ _ (.bool true) O10
      generalize w10.setCell ⟨O, 6, none⟩ (.bool true) = w11 at K11 O11 ⊢
      have R11 := K11.at_ R10 (by omega)
      have A11 := K11.at_ A10 (by omega)
      have Q11 := K11.at_ Q10 (by omega)
      obtain ⟨⟨cq0, cq1, cq2, cq3, cq4⟩, _⟩ := five_cells Q11
      have ql := Q11.lt
      have KS11 : KeepS (fun k => k = w.heap.size + 1 ∨ k = O) w9 w11 := (KS10.mono (fun i h => .inl h)).trans (K11.mono (fun i h => .inr h))
      have HR11 := hid (RepIn.now (HRp.out.agree KS11.size fun b hb => KS11.block b (by omega) (by omega)))
      clear R10 A10 Q10 O10 KS10 K11 of6 oc6 ol
      go_wp2_with (go_at_call 29; fail)
      go_at_call 29
      refine (data_says (w.heap.size + 1) s rest o.dt (lvR o).1 _ _ b4 c' o.dt.size w11 hs5 hbl4 R11 HR11.out (by omega) HGG.out rfl rfl HD.out.1 HD.out.2.1 HD.out.2.2 hd2).mono ?_
      rintro e w12 ⟨rfl, hb12⟩
      have A12 := A11.later hb12
      have O12 := O11.later hb12
      have KS12 : KeepS (fun k => k = w.heap.size + 1 ∨ k = O) w9 w12 := KS11.trans (.of hb12)
      have ol := O12.lt
      have of7 := O12.free 7
      have oc7 := O12.cell 7
      simp at oc7
      clear KS11 A11 O11 R11 Q11 cq0 cq1 cq2 cq3 cq4 ql hb12 HR11 HGG HD
      go_upto_region 18 with fail
      have K13 : KeepS (fun k => k = O) w12 (w12.setCell ⟨O, 7, none⟩ (.string o.dt)) := (KeepS.refl (fun k => k = O) w12).set (P := O) rfl 7 _
      have O13 : At (w12.setCell ⟨O, 7, none⟩ (.string o.dt)) O 42 #[.int .i64 o.n, .int .i64 k, .int .i64 q, .string t, .slice a1 l1 p1, .slice a2 l2 p2, .bool true, .string o.dt] := heap_setCell_same _ O 7 _ _ (.string o.dt) O12
      generalize w12.setCell ⟨O, 7, none⟩ (.string o.dt) = w13 at K13 O13 ⊢
      have A13 := K13.at_ A12 (by omega)
      have KS13 : KeepS (fun k => k = w.heap.size + 1 ∨ k = O) w9 w13 := KS12.trans (K13.mono (fun i h => .inr h))
      clear of7 oc7 ol A12 O12 KS12 K13
      have al := A13.lt
      have ol := O13.lt
      obtain ⟨⟨o0, o1, o2, o3, o4, o5, o6, o7⟩, _⟩ := eight_cells O13
      obtain ⟨⟨r0, r1, r2, r3, r4, r5, r6, r7⟩, g0, g1, g2, g3, g4, g5, g6, g7⟩ := eight_cells A13
      go_wp2_with fail
      have hZ := At.eight A13 (.int .i64 o.n) (.int .i64 k) (.int .i64 q) (.string t) (.slice a1 l1 p1) (.slice a2 l2 p2) (.bool true) (.string o.dt)
      have KZ := keep_set8 (w := w13) (b := w.heap.size) (.int .i64 o.n) (.int .i64 k) (.int .i64 q) (.string t) (.slice a1 l1 p1) (.slice a2 l2 p2) (.bool true) (.string o.dt)
      unfold set8 at hZ KZ
      generalize World.setCell _ _ _ = wf at hZ KZ ⊢
      clear r0 r1 r2 r3 r4 r5 r6 r7 o0 o1 o2 o3 o4 o5 o6 o7
      obtain ⟨⟨r0, r1, r2, r3, r4, r5, r6, r7⟩, _⟩ := eight_cells hZ
      refine bodyPost_ret (v := .tuple #[.agg #[.int .i64 o.n, .int .i64 k, .int .i64 q, .string t, .slice a1 l1 p1, .slice a2 l2 p2, .bool true, .string o.dt], .nilIface]) (by simp [results, Tryz.results13, go_sem, r0, r1, r2, r3, r4, r5, r6, r7]; try first | exact ⟨rfl, rfl⟩ | rfl) rfl ?_
      exact ⟨[.int .i64 k, .int .i64 q, .string t, .slice a1 l1 p1, .slice a2 l2 p2], by rw [hst]; rfl, get_end HRp.out ((KS13.mono (by intro i h; omega)).trans (KZ.mono (by intro i h; omega))) hB9 (by omega) (by omega)⟩
end Go.Proofs.YtflcibmjblioaaaGreatDoor

/-
  The number of a file's root (file.Root).
-/
namespace Go.Proofs.YtflcibmjblioaaaGreatDoor
open Go.RowKit
set_option maxRecDepth 100000

def rootN : ByteArray := ⟨#[82, 111, 111, 116]⟩
set_option maxHeartbeats 2000000 in
theorem root_says {d : Nat} {w : World} (P : Nat) (s : ByteArray) (mp : Value) (tb : Int) (v : V) (k n : Int) (t : ByteArray) (al af : Option Addr) (l1 cl l2 cf : Nat) (x : V) (hA : FileAt w P s mp tb (.int .i64 k) (.int .i64 n) (.string t) (.slice al l1 cl) (.slice af l2 cf)) (hv : RepN d w v [.int .i64 k, .int .i64 n, .string t, .slice al l1 cl, .slice af l2 cf]) (hcn : v.cnt ≤ 1048576) (hg : getF rootN v.f = some x) (hk : x.k = 7) :
    Calls Tryz.prog 10 #[.pointer (some ⟨P, 0, none⟩)] w fun e w' => e = .returned (.tuple #[.int .i64 x.n, .nilIface]) ∧ Below w.heap.size w w' := by
  have c3 := hA.cell 3
  have c4 := hA.cell 4
  have c5 := hA.cell 5
  have c6 := hA.cell 6
  have c7 := hA.cell 7
  have hlt := hA.lt
  simp at c3 c4 c5 c6 c7
  go_enter Tryz.func10, Tryz.ntmps10
  go_wp2_with (go_at_call 24; fail)
  go_at_call 24
  refine (vGet_says (name := rootN) (v := v) (cs := [.int .i64 k, .int .i64 n, .string t, .slice al l1 cl, .slice af l2 cf]) hv hcn).mono ?_
  rintro e w1 ⟨⟨c, rfl, hr1⟩, hb1⟩
  rw [hg] at hr1
  simp only [Option.getD_some] at hr1
  rw [hg]
  obtain ⟨e', rfl⟩ := hr1.inv
  obtain ⟨al2, af2, cl2, cf2, rfl, _⟩ := hr1
  rw [hk]
  go_wp2
  go_ret2
  exact ⟨rfl, hb1.alloc hb1.size _⟩
end Go.Proofs.YtflcibmjblioaaaGreatDoor

/-
  A file that is built, and one that is laid behind it: plain facts.
-/
namespace Go.Proofs.YtflcibmjblioaaaGreatDoor
open Go.RowKit Go.Lib Go.Maps
set_option maxRecDepth 1000000

def headL : List UInt8 := [37, 80, 68, 70, 45, 49, 46, 52, 10]
/-- The last words of a file that is built. -/
def rootV (r : Int) : V := ⟨6, 0, eB, [], [(rootN, V0 7 r eB)]⟩
/-- Those of one that is laid behind it. -/
def prevV (r : Int) (a : Nat) : V := ⟨6, 0, eB, [], [(prevN, V0 2 ((a : Int) * 1000) eB), (rootN, V0 7 r eB)]⟩
theorem prev_pset (r : Int) (a : Nat) : psetF prevN (V0 2 ((a : Int) * 1000) eB) (rootV r).f = (prevV r a).f := by kernel_rfl
theorem root_prev (r : Int) : getF prevN (rootV r).f = none := by kernel_rfl
theorem prev_get (r : Int) (a : Nat) : getF rootN (prevV r a).f = some (V0 7 r eB) := by kernel_rfl
theorem prev_prev (r : Int) (a : Nat) : getF prevN (prevV r a).f = some (V0 2 ((a : Int) * 1000) eB) := by kernel_rfl
theorem root_cnt (r : Int) : (rootV r).cnt = 2 := by kernel_rfl
theorem root_bulk (r : Int) : (rootV r).bulk = 7 := by kernel_rfl
theorem prev_cnt (r : Int) (a : Nat) : (prevV r a).cnt = 3 := by kernel_rfl
theorem prev_bulk (r : Int) (a : Nat) : (prevV r a).bulk = 13 := by kernel_rfl
/-- All that a file was read as, plainly. -/
structure ReadOk (s : ByteArray) (x0 : TabF) (T0 : List TabF) : Prop where
  pdf : Lib.hasPrefix s.data.toList pdfW = true
  start : ∃ X : List UInt8, Lib.lastIndex s.data.toList startW = (X.length : Int) ∧ X.length ≤ 60000 ∧ ∃ b, TokF s (X.length + 9) (Lib.decDigits x0.a) b
  links : Links s x0 T0
  nodup : ((x0 :: T0).map (·.a)).Nodup
  few : T0.length ≤ 6
  tot : 100 * totS (x0 :: T0) < 50000
  size : s.size ≤ 60000
theorem pdf_pre {s : ByteArray} {t : List UInt8} (h : s.data.toList = headL ++ t) : Lib.hasPrefix s.data.toList pdfW = true := by
  rw [h]; rfl
/-- A file that was built. -/
theorem built_read {L : List Ob} {r : Int} {T : ByteArray} (h : Laid headL L (rootV r) T) : ∃ (sp : List (Nat × List Nat)) (a : Nat), ReadOk T ⟨a, sp, rootV r⟩ [] ∧ a < T.size ∧ sp.length ≤ 60 ∧
    (∀ (s : ByteArray) (suf : List UInt8), s.data.toList = T.data.toList ++ suf → s.size ≤ 60000 → RdTab s ⟨a, sp, rootV r⟩ ∧ ∀ o ∈ L, ∃ p : Nat, (∀ m : Int → Option Int, m o.n = none → tellS m sp o.n = some (p : Int)) ∧ RdOb s p o) ∧
    ∀ m : Int → Option Int, (∀ x c, m x = some c → tellS m sp x = some c) ∧ (∀ x, m x = none → (∀ o ∈ L, o.n ≠ x) → tellS m sp x = none) := by
  obtain ⟨sp, a, _, h2, ⟨X, hX⟩, h3, h4, h5⟩ := h.read rfl
  have hz := h.size
  have hl := szL T
  have hself := h4 T [] (by simp) hz
  obtain ⟨s1, s2⟩ := start_rd (s := T) (X := headL ++ X) (a := a) (by rw [hX, List.append_assoc])
  have hXl : (headL ++ X).length ≤ 60000 := by
    have := congrArg List.length hX
    simp only [List.length_append] at this ⊢
    omega
  refine ⟨sp, a, ⟨pdf_pre hX, ⟨headL ++ X, s1, hXl, s2⟩, ⟨hself.1, root_prev r⟩, by simp, by simp, by simp [totS]; omega, hz⟩, h2, h3, fun s suf he hs => ⟨(h4 s suf he hs).1, fun o ho => ⟨_, fun m hm => (h5 m).2.2 o ho hm, (h4 s suf he hs).2 o ho⟩⟩, fun m => ⟨(h5 m).1, (h5 m).2.1⟩⟩
/-- A file behind another one. -/
theorem behind_read {L M : List Ob} {r : Int} {T U : ByteArray} {a : Nat} {sp : List (Nat × List Nat)} (hT : Laid headL L (rootV r) T) (ha : a < T.size) (hsp : sp.length ≤ 60) (hU : Laid T.data.toList M (prevV r a) U)
    (h1 : ∀ (s : ByteArray) (suf : List UInt8), s.data.toList = T.data.toList ++ suf → s.size ≤ 60000 → RdTab s ⟨a, sp, rootV r⟩ ∧ ∀ o ∈ L, ∃ p : Nat, (∀ m : Int → Option Int, m o.n = none → tellS m sp o.n = some (p : Int)) ∧ RdOb s p o)
    (h2 : ∀ m : Int → Option Int, (∀ x c, m x = some c → tellS m sp x = some c) ∧ (∀ x, m x = none → (∀ o ∈ L, o.n ≠ x) → tellS m sp x = none)) :
    ∃ (sq : List (Nat × List Nat)) (b : Nat), ReadOk U ⟨b, sq, prevV r a⟩ [⟨a, sp, rootV r⟩] ∧ (∃ suf, U.data.toList = T.data.toList ++ suf) ∧
      (∀ o ∈ M, ∃ p : Nat, tellT (fun _ => none) [⟨b, sq, prevV r a⟩, ⟨a, sp, rootV r⟩] o.n = some (p : Int) ∧ RdOb U p o) ∧
      (∀ o ∈ L, (∀ q ∈ M, q.n ≠ o.n) → ∃ p : Nat, tellT (fun _ => none) [⟨b, sq, prevV r a⟩, ⟨a, sp, rootV r⟩] o.n = some (p : Int) ∧ RdOb U p o) ∧
      (∀ x c, tellT (fun _ => none) [⟨b, sq, prevV r a⟩, ⟨a, sp, rootV r⟩] x = some c → (∃ o ∈ M, o.n = x) ∨ ∃ o ∈ L, o.n = x) := by
  obtain ⟨sq, b, q1, q2, ⟨X, hX⟩, q3, q4, q5⟩ := hU.read rfl
  have hz := hU.size
  have hl := szL T
  have hself := q4 U [] (by simp) hz
  obtain ⟨s1, s2⟩ := start_rd (s := U) (X := T.data.toList ++ X) (a := b) (by rw [hX, List.append_assoc])
  have hXl : (T.data.toList ++ X).length ≤ 60000 := by
    have := congrArg List.length hX
    have := szL U
    simp only [List.length_append] at *
    omega
  have hpre : ∃ t, T.data.toList = headL ++ t := by
    obtain ⟨_, _, _, ht⟩ := hT.text
    exact ⟨_, ht⟩
  obtain ⟨t, ht⟩ := hpre
  have hu := h1 U (X ++ endT b) hX hz
  refine ⟨sq, b, ⟨pdf_pre (t := t ++ (X ++ endT b)) (by rw [hX, ht]; simp only [List.append_assoc]), ⟨_, s1, hXl, s2⟩, ⟨hself.1, ⟨_, prev_prev r a, rfl, rfl⟩, hu.1, root_prev r⟩, ?_, by simp, by simp [totS]; omega, hz⟩, ⟨_, hX⟩, fun o ho => ?_, fun o ho hno => ?_, fun x c hx => ?_⟩
  · simp
    omega
  · refine ⟨_, ?_, hself.2 o ho⟩
    show tellS (tellS _ sq) sp o.n = _
    exact (h2 _).1 _ _ ((q5 _).2.2 o ho rfl)
  · obtain ⟨p, p1, p2⟩ := hu.2 o ho
    refine ⟨p, ?_, p2⟩
    show tellS (tellS _ sq) sp o.n = _
    exact p1 _ ((q5 _).2.1 o.n rfl fun q hq => hno q hq)
  · by_cases e1 : ∃ o ∈ M, o.n = x
    · exact .inl e1
    · by_cases e2 : ∃ o ∈ L, o.n = x
      · exact .inr e2
      · have g1 := (q5 (fun _ => none)).2.1 x rfl fun q hq e => e1 ⟨q, hq, e⟩
        have g2 := (h2 _).2 x g1 fun q hq e => e2 ⟨q, hq, e⟩
        have : tellS (tellS (fun _ => none) sq) sp x = some c := hx
        rw [g2] at this
        cases this
end Go.Proofs.YtflcibmjblioaaaGreatDoor
