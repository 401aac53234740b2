/-
  Joined: Oc, Tf, Pr.
-/
import Derived.Test.YtefbfgcbbpmhlabGreatDoorRz
import Derived.Test.YtefbfgcbbpmhlabGreatDoorRd
import Derived.Test.YtefbfgcbbpmhlabGreatDoorPp

/-
  parse.Value, whole: where the value lies.
-/
namespace Go.Proofs.YtefbfgcbbpmhlabGreatDoor
open Go.RowKit
set_option maxRecDepth 100000

theorem repIn_0 (S : Nat → Prop) (d : Nat) (w : World) : RepIn S (d + 1) w (V0 0 0 eB) [.int .i64 0, .int .i64 0, .string ⟨#[]⟩, .slice none 0 0, .slice none 0 0] := repIn_vc S d w 0 0 eB (by decide)
/-- What a call that reads a value from a place on says; the value lies in new blocks. -/
def SaidI (w : World) (r : Rd) (e : Ending) (w' : World) : Prop :=
  ∃ (k n : Int) (t : ByteArray) (a1 a2 : Option Addr) (l1 c1 l2 c2 : Nat), e = .returned (.tuple #[.agg #[.int .i64 k, .int .i64 n, .string t, .slice a1 l1 c1, .slice a2 l2 c2], .int .i64 (r.2.2 : Nat), errN r.2.1]) ∧ Below w.heap.size w w' ∧
    Hid (RepIn (fun b => w.heap.size ≤ b ∧ b < w'.heap.size) 9 w' r.1 [.int .i64 k, .int .i64 n, .string t, .slice a1 l1 c1, .slice a2 l2 c2])
set_option maxHeartbeats 4000000 in
theorem pValueI (m : Int) (s : ByteArray) (a : Int) (w : World) (_hs : s.size ≤ maxLen) (hG : Gr m w) :
    Calls Tryz.prog 89 #[.string s, .int .i64 a] w (SaidI w (pV s a)) := by
  by_cases hb : 60000 < s.size ∨ a < 0 ∨ (s.size : Int) < a
  · have HP := hid (show pV s a = (V0 0 0 eB, 1, 0) by unfold pV; rw [if_pos hb])
    rw [HP.out]
    have h1 : (60000 : Int) < s.size ∨ (¬ (60000 : Int) < s.size ∧ a < 0) ∨ (¬ (60000 : Int) < s.size ∧ ¬ a < 0 ∧ (s.size : Int) < a) := by omega
    clear hb
    rcases h1 with h1 | ⟨h1, h2⟩ | ⟨h1, h2, h3⟩
    all_goals
      go_enter Tryz.func89, Tryz.ntmps89
      go_wp2
      refine bodyPost_ret (v := .tuple #[.agg (vc 0 0 ⟨#[]⟩), .int .i64 0, .iface 86 (.int .i64 1)]) (by simp [results, Tryz.results89, go_sem]; try first | exact ⟨rfl, rfl⟩ | rfl) rfl ?_
      exact ⟨0, 0, ⟨#[]⟩, none, none, 0, 0, 0, 0, rfl, by first | exact below_box _ _ | exact below_set5 (below_box _ _) (Nat.le_refl _) _ _ _ _ _, hid (repIn_0 _ _ _)⟩
  · have h1 : ¬ (60000 : Int) < s.size := by omega
    have h2 : ¬ a < 0 := by omega
    have h3 : ¬ (s.size : Int) < a := by omega
    obtain ⟨k, rfl⟩ : ∃ k : Nat, a = k := ⟨a.toNat, by omega⟩
    have HP := hid (show pV s k = if (rdV s 8 k).2.1 ≠ 0 then (V0 0 0 eB, (rdV s 8 k).2.1, 0) else if faultV (rdV s 8 k).1 ≠ 0 then (V0 0 0 eB, faultV (rdV s 8 k).1, 0) else rdV s 8 k by unfold pV; rw [if_neg hb, Int.toNat_natCast])
    clear hb
    have hv := fun (P : Nat) (w : World) (hE : Env m P w) (hR : RdAt w P s k) => yValue m P s (by omega) 8 1 (by omega) (by omega) w k hE hR (by omega)
    have HF := hid (rdV_fits s 8 k (by omega))
    generalize rdV s 8 k = r at HP hv HF
    obtain ⟨v, e1, z⟩ := r
    unfold Said at hv
    simp only at hv
    have HN0 := hid (Nest.new w s k)
    have HR0 := hid HN0.out.at_
    have HE0 := hid (((hG.below (below_box w (.cells (vc 0 0 ⟨#[]⟩) 26))).env (P := w.heap.size + 1) (by simp)).upTo (by
      have := below_box (w.alloc (.cells (vc 0 0 ⟨#[]⟩) 26)) (.cells #[.string s, .int .i64 k] 202)
      rwa [show (w.alloc (.cells (vc 0 0 ⟨#[]⟩) 26)).heap.size = w.heap.size + 1 by simp] at this))
    by_cases he : e1 = 0
    · subst he
      rw [errN_0] at hv
      have HC := hid (show v.cnt ≤ 1048576 by have := HF.out rfl; simp only at this; omega)
      by_cases hf : faultV v = 0
      · have HP2 := hid (show pV s k = (v, 0, z) by rw [HP.out, if_neg (by simp), if_neg (by simp [hf])])
        rw [HP2.out]
        have HFV := hid hf
        clear HP
        go_enter Tryz.func89, Tryz.ntmps89
        go_wp2_with (first | (go_at_call 140; go_must (refine (hv (w.heap.size + 1) _ HE0.out HR0.out).mono ?_); rintro e w1 ⟨k1, n1, t1, a1, a2, l1, c1, l2, c2, J, rfl, hm, HQ⟩; (have hN1 := HN0.out.moved hm); (have hz1 := hN1.lt1); (have hNa := hN1.below' (below_box w1 (.cells #[.int .i64 k1, .int .i64 n1, .string t1, .slice a1 l1 c1, .slice a2 l2 c2] 26))); obtain ⟨⟨bx0, bx1, bx2, bx3, bx4⟩, bf0, bf1, bf2, bf3, bf4⟩ := box5 hNa.box; (have rc1 := hNa.at_.c1)) | (go_at_call 141; (have hq3 := (HQ.out (by first | rfl | trivial)).2.2); go_must (refine (check_says (d := 9) (v := v) (cs := [.int .i64 k1, .int .i64 n1, .string t1, .slice a1 l1 c1, .slice a2 l2 c2]) (hq3.now.later (below_box w1 _)) HC.out).mono ?_); rintro e w2 ⟨he2, hb2⟩; rw [HFV.out, errN_0] at he2; subst he2; (have hNb := hNa.below' hb2); obtain ⟨⟨by0, by1, by2, by3, by4⟩, bg0, bg1, bg2, bg3, bg4⟩ := box5 hNb.box; (have rd1 := hNb.at_.c1); (have hVb := At.later (At.new w1 #[.int .i64 k1, .int .i64 n1, .string t1, .slice a1 l1 c1, .slice a2 l2 c2] 26 rfl) hb2); obtain ⟨⟨vy0, vy1, vy2, vy3, vy4⟩, _⟩ := five_cells hVb))
        have HQ3 := hid hq3
        have HJ := hid (HQ.out (by first | rfl | trivial)).1
        clear hq3
        go_region
        all_goals
          go_wp2
          obtain ⟨hM5, hB5, hS5, hO5⟩ := hNb.fill5 (.int .i64 k1) (.int .i64 n1) (.string t1) (.slice a1 l1 c1) (.slice a2 l2 c2) rfl
          unfold set5 at hM5 hB5 hS5 hO5
          generalize World.setCell _ _ _ = wf at hM5 hB5 hS5 hO5 ⊢
          have hB6 : At wf.drew w.heap.size 26 #[.int .i64 k1, .int .i64 n1, .string t1, .slice a1 l1 c1, .slice a2 l2 c2] := hB5
          obtain ⟨⟨cx0, cx1, cx2, cx3, cx4⟩, _⟩ := five_cells hB6
          refine bodyPost_ret (v := .tuple #[.agg #[.int .i64 k1, .int .i64 n1, .string t1, .slice a1 l1 c1, .slice a2 l2 c2], .int .i64 J, .nilIface]) (by simp [results, Tryz.results89, go_sem, cx0, cx1, cx2, cx3, cx4]; try first | exact ⟨rfl, rfl⟩ | rfl) rfl ?_
          have hwf : w1.heap.size ≤ wf.heap.size := by have := hb2.size; simp at this; omega
          refine ⟨k1, n1, t1, a1, a2, l1, c1, l2, c2, by rw [HJ.out]; rfl, hM5.drew, hid ((HQ3.out.agree (w' := wf.drew) hwf fun b hb => ?_).mono fun b hb => ⟨by have := hb.1; simp at this; omega, Nat.lt_of_lt_of_le hb.2 hwf⟩)⟩
          · show wf.heap[b]? = _
            have h1 := hb.1
            simp at h1
            rw [hO5 b (by omega), hb2.block b (by have := hb.2; simp; omega), heap_alloc_old _ _ hb.2]
      · have HP2 := hid (show pV s k = (V0 0 0 eB, faultV v, 0) by rw [HP.out, if_neg (by simp), if_pos hf])
        rw [HP2.out]
        have HX := hid hf
        have hfe := errN_pos hf
        unfold errV at hfe
        have HFE := hid hfe
        clear hfe hf HP
        go_enter Tryz.func89, Tryz.ntmps89
        go_wp2_with (first | (go_at_call 140; go_must (refine (hv (w.heap.size + 1) _ HE0.out HR0.out).mono ?_); rintro e w1 ⟨k1, n1, t1, a1, a2, l1, c1, l2, c2, J, rfl, hm, HQ⟩; (have hN1 := HN0.out.moved hm); (have hz1 := hN1.lt1); (have hNa := hN1.below' (below_box w1 (.cells #[.int .i64 k1, .int .i64 n1, .string t1, .slice a1 l1 c1, .slice a2 l2 c2] 26))); obtain ⟨⟨bx0, bx1, bx2, bx3, bx4⟩, bf0, bf1, bf2, bf3, bf4⟩ := box5 hNa.box; (have rc1 := hNa.at_.c1)) | (go_at_call 141; (have hq3 := (HQ.out (by first | rfl | trivial)).2.2); go_must (refine (check_says (d := 9) (v := v) (cs := [.int .i64 k1, .int .i64 n1, .string t1, .slice a1 l1 c1, .slice a2 l2 c2]) (hq3.now.later (below_box w1 _)) HC.out).mono ?_); rintro e w2 ⟨he2, hb2⟩; rw [HFE.out] at he2; subst he2; (have hNb := hNa.below' hb2); obtain ⟨⟨by0, by1, by2, by3, by4⟩, bg0, bg1, bg2, bg3, bg4⟩ := box5 hNb.box; (have rd1 := hNb.at_.c1); (have hVb := At.later (At.new w1 #[.int .i64 k1, .int .i64 n1, .string t1, .slice a1 l1 c1, .slice a2 l2 c2] 26 rfl) hb2); obtain ⟨⟨vy0, vy1, vy2, vy3, vy4⟩, _⟩ := five_cells hVb))
        obtain ⟨hM5, hB5⟩ := hNb.fillZ
        generalize World.setCell _ _ _ = wf at hB5 hM5 ⊢
        obtain ⟨⟨cx0, cx1, cx2, cx3, cx4⟩, _⟩ := box5 hB5
        refine bodyPost_ret (v := .tuple #[.agg (vc 0 0 ⟨#[]⟩), .int .i64 0, .iface 86 (.int .i64 (faultV v))]) (by simp [results, Tryz.results89, go_sem, cx0, cx1, cx2, cx3, cx4]; try first | exact ⟨rfl, rfl⟩ | rfl) rfl ?_
        exact ⟨0, 0, ⟨#[]⟩, none, none, 0, 0, 0, 0, by rw [HFE.out]; rfl, hM5, hid (repIn_0 _ _ _)⟩
    · have HP2 := hid (show pV s k = (V0 0 0 eB, e1, 0) by rw [HP.out, if_pos he])
      rw [HP2.out]
      have HX := hid he
      rw [errN_pos he] at hv
      unfold errV at hv
      clear HP he
      go_enter Tryz.func89, Tryz.ntmps89
      go_wp2_with ((go_at_call 140; go_must (refine (hv (w.heap.size + 1) _ HE0.out HR0.out).mono ?_); rintro e w1 ⟨k1, n1, t1, a1, a2, l1, c1, l2, c2, J, rfl, hm, HQ⟩; (have hN1 := HN0.out.moved hm); (have hz1 := hN1.lt1); (have hNa := hN1.below' (below_box w1 (.cells #[.int .i64 k1, .int .i64 n1, .string t1, .slice a1 l1 c1, .slice a2 l2 c2] 26))); obtain ⟨⟨bx0, bx1, bx2, bx3, bx4⟩, bf0, bf1, bf2, bf3, bf4⟩ := box5 hNa.box; (have rc1 := hNa.at_.c1)))
      obtain ⟨hM5, hB5⟩ := hNa.fillZ
      generalize World.setCell _ _ _ = wf at hB5 hM5 ⊢
      obtain ⟨⟨cx0, cx1, cx2, cx3, cx4⟩, _⟩ := box5 hB5
      refine bodyPost_ret (v := .tuple #[.agg (vc 0 0 ⟨#[]⟩), .int .i64 0, .iface 86 (.int .i64 e1)]) (by simp [results, Tryz.results89, go_sem, cx0, cx1, cx2, cx3, cx4]; try first | exact ⟨rfl, rfl⟩ | rfl) rfl ?_
      exact ⟨0, 0, ⟨#[]⟩, none, none, 0, 0, 0, 0, by rw [errN_pos HX.out]; rfl, hM5, hid (repIn_0 _ _ _)⟩
end Go.Proofs.YtefbfgcbbpmhlabGreatDoor

/-
  The walks of the law TopFix, for every two numbers.
-/
namespace Go.Proofs.YtefbfgcbbpmhlabGreatDoor
open Go.RowKit
set_option maxRecDepth 100000

theorem txt1250 : txtB 1250 = ⟨#[49, 46, 50, 53]⟩ := by rw [txtB_ok rfl, text_1250]
theorem chain2 {a b c : World} (h1 : Below a.heap.size a b) (h2 : Below b.heap.size b c) : Below a.heap.size a c := h1.trans (h2.mono h1.size)
theorem chain4 {a b c d e : World} (h1 : Below a.heap.size a b) (h2 : Below b.heap.size b c) (h3 : Below c.heap.size c d) (h4 : Below d.heap.size d e) : Below a.heap.size a e := chain2 (chain2 (chain2 h1 h2) h3) h4
theorem err1250 : errN (flt 1250) = .nilIface := rfl
theorem errBad {a : Int} (h : okF a = false) : errN (flt a) = .iface 86 (.int .i64 1) := by rw [flt_bad h]; rfl
theorem errOk {a : Int} (h : okF a = true) : errN (flt a) = .nilIface := by rw [flt_ok h]; rfl

theorem chain6 {a b c d e f g : World} (h1 : Below a.heap.size a b) (h2 : Below b.heap.size b c) (h3 : Below c.heap.size c d) (h4 : Below d.heap.size d e) (h5 : Below e.heap.size e f) (h6 : Below f.heap.size f g) : Below a.heap.size a g := chain2 (chain4 h1 h2 h3 h4) (chain2 h5 h6)

end Go.Proofs.YtefbfgcbbpmhlabGreatDoor

/-
  Plain: the document's reading of a number, byte by byte: what has been seen at each step, and what it comes to.
-/
namespace Go.Proofs.YtefbfgcbbpmhlabGreatDoor
open Go.RowKit

/-- Ahead of the point: the digits seen so far. -/
def Mode1 (r : List UInt8) (j whole : Nat) : Prop := ∃ a rest, r = a ++ rest ∧ allD a = true ∧ j = a.length ∧ whole = satW 0 a
/-- Behind the point. -/
def Mode2 (r : List UInt8) (j whole part wo digits : Nat) : Prop :=
  ∃ a b rest, r = a ++ 46 :: (b ++ rest) ∧ allD a = true ∧ allD b = true ∧ j = a.length + 1 + b.length ∧ whole = satW 0 a ∧ part = frac3 b ∧ wo = worth b.length ∧ digits = a.length + b.length
theorem allD_snoc {a : List UInt8} {c : UInt8} (ha : allD a = true) (hc : isD c = true) : allD (a ++ [c]) = true := by
  unfold allD at *; rw [List.all_append, ha]; simp [hc]
theorem mode1_start (r : List UInt8) : Mode1 r 0 0 := ⟨[], r, rfl, rfl, rfl, rfl⟩
theorem split_at {r a rest : List UInt8} {c : UInt8} (h : r = a ++ rest) (hc : r[a.length]? = some c) : ∃ rest', rest = c :: rest' := by
  subst h
  rw [List.getElem?_append_right (Nat.le_refl _), Nat.sub_self] at hc
  cases rest with
  | nil => simp at hc
  | cons d l => simp at hc; exact ⟨l, by rw [hc]⟩
theorem mode1_digit {r : List UInt8} {j whole : Nat} {c : UInt8} (h : Mode1 r j whole) (hc : r[j]? = some c) (hd : isD c = true) : Mode1 r (j + 1) (if whole < 10000000 then 10 * whole + (c.toNat - 48) else whole) := by
  obtain ⟨a, rest, h1, h2, rfl, rfl⟩ := h
  obtain ⟨rest', rfl⟩ := split_at h1 hc
  exact ⟨a ++ [c], rest', by rw [h1]; simp, allD_snoc h2 hd, by simp, by rw [satW_snoc]⟩
theorem mode1_dot {r : List UInt8} {j whole : Nat} (h : Mode1 r j whole) (hc : r[j]? = some 46) : Mode2 r (j + 1) whole 0 100 j := by
  obtain ⟨a, rest, h1, h2, rfl, rfl⟩ := h
  obtain ⟨rest', rfl⟩ := split_at h1 hc
  exact ⟨a, [], rest', by rw [h1]; rfl, h2, rfl, by simp, rfl, rfl, rfl, by simp⟩
theorem mode1_bad {r : List UInt8} {j whole : Nat} {c : UInt8} (h : Mode1 r j whole) (hc : r[j]? = some c) (hd : isD c = false) (h46 : c ≠ 46) : goodF r = false := by
  obtain ⟨a, rest, h1, h2, rfl, rfl⟩ := h
  obtain ⟨rest', rfl⟩ := split_at h1 hc
  rw [h1]; exact bad_whole rest' h2 hd h46
theorem split_at2 {r a b rest : List UInt8} {c : UInt8} (h : r = a ++ 46 :: (b ++ rest)) (hc : r[a.length + 1 + b.length]? = some c) : ∃ rest', rest = c :: rest' := by
  have h' : r = (a ++ 46 :: b) ++ rest := by rw [h]; simp
  refine split_at h' ?_
  rw [← hc]; congr 1; simp; omega
theorem mode2_digit {r : List UInt8} {j whole part wo digits : Nat} {c : UInt8} (h : Mode2 r j whole part wo digits) (hc : r[j]? = some c) (hd : isD c = true) : Mode2 r (j + 1) whole (part + wo * (c.toNat - 48)) (wo / 10) (digits + 1) := by
  obtain ⟨a, b, rest, h1, h2, h3, rfl, rfl, rfl, rfl, rfl⟩ := h
  obtain ⟨rest', rfl⟩ := split_at2 h1 hc
  exact ⟨a, b ++ [c], rest', by rw [h1]; simp, h2, allD_snoc h3 hd, by simp; omega, rfl, by rw [frac3_snoc], by rw [worth_step]; simp, by simp; omega⟩
theorem mode2_bad {r : List UInt8} {j whole part wo digits : Nat} {c : UInt8} (h : Mode2 r j whole part wo digits) (hc : r[j]? = some c) (hd : isD c = false) : goodF r = false := by
  obtain ⟨a, b, rest, h1, h2, h3, rfl, rfl, rfl, rfl, rfl⟩ := h
  obtain ⟨rest', rfl⟩ := split_at2 h1 hc
  rw [h1]; exact bad_part rest' h2 hd
theorem mode1_bd {r : List UInt8} {j whole : Nat} (h : Mode1 r j whole) : whole ≤ 100000000 ∧ j ≤ r.length := by
  obtain ⟨a, rest, h1, h2, rfl, rfl⟩ := h
  exact ⟨satW_le a 0 h2 (by omega), by rw [h1]; simp⟩
theorem worth_le (k : Nat) : worth k ≤ 100 := by unfold worth; split <;> (try split) <;> (try split) <;> omega
theorem mode2_bd {r : List UInt8} {j whole part wo digits : Nat} (h : Mode2 r j whole part wo digits) : whole ≤ 100000000 ∧ part ≤ 999 ∧ wo ≤ 100 ∧ j ≤ r.length ∧ digits ≤ r.length := by
  obtain ⟨a, b, rest, h1, h2, h3, rfl, rfl, rfl, rfl, rfl⟩ := h
  refine ⟨satW_le a 0 h2 (by omega), frac3_lt b h3, worth_le _, ?_, ?_⟩ <;> rw [h1] <;> simp <;> omega
/-- What it comes to in the end: the same as the text is. -/
def EndIs (r : List UInt8) (whole part digits : Nat) : Prop :=
  (digits = 0 → goodF r = false) ∧ (digits ≠ 0 → goodF r = true ∧ (1000 * whole + part ≤ 1000000000 → magF r = 1000 * whole + part) ∧ (1000000000 < 1000 * whole + part → 1000000000 < magF r))
theorem end_of {r a b : List UInt8} (h1 : wholeOf r = a) (h2 : partOf r = b) (ha : allD a = true) (hb : allD b = true) : EndIs r (satW 0 a) (frac3 b) (a.length + b.length) := by
  have hs := satW_sat a 0 0 (Or.inl rfl)
  have hf := frac3_lt b hb
  refine ⟨fun h0 => by simp [goodF, h1, h2, h0], fun h0 => ⟨goodF_iff.2 ⟨by rw [h1]; exact ha, by rw [h2]; exact hb, by rw [h1, h2]; exact h0⟩, ?_, ?_⟩⟩
  · intro hle; unfold magF; rw [h1, h2]
    rcases hs with hs | hs
    · rw [hs]
    · omega
  · intro hgt; unfold magF; rw [h1, h2]
    rcases hs with hs | hs
    · rw [← hs]; exact hgt
    · omega
theorem mode1_end {r : List UInt8} {whole : Nat} (h : Mode1 r r.length whole) : EndIs r whole 0 r.length := by
  obtain ⟨a, rest, h1, h2, h3, rfl⟩ := h
  have : rest = [] := by
    have := congrArg List.length h1; rw [List.length_append] at this; exact List.length_eq_zero_iff.1 (by omega)
  subst this
  rw [List.append_nil] at h1; subst h1
  have hw := whole_none h2
  have := end_of hw.1 hw.2 h2 rfl
  simpa [frac3] using this
theorem mode2_end {r : List UInt8} {whole part wo digits : Nat} (h : Mode2 r r.length whole part wo digits) : EndIs r whole part digits := by
  obtain ⟨a, b, rest, h1, h2, h3, h4, rfl, rfl, rfl, rfl⟩ := h
  have : rest = [] := by
    have := congrArg List.length h1; rw [List.length_append, List.length_cons, List.length_append] at this; exact List.length_eq_zero_iff.1 (by omega)
  subst this
  rw [List.append_nil] at h1
  have hw := whole_dot b h2
  rw [← h1] at hw
  exact end_of hw.1 hw.2 h2 h3
end Go.Proofs.YtefbfgcbbpmhlabGreatDoor
