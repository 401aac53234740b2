/-
  Spans as a program: the program's text of them.
-/
import Derived.Test.YtggojafapieliabDoorCg
namespace Go.Proofs.YtggojafapieliabDoor
open Go.RowKit
set_option maxRecDepth 100000
attribute [local go_sem ↓] Go.wp_at_zero Go.wp_at_succ

set_option maxHeartbeats 1000000 in
theorem write_bad (l : List Sp) (wide : Bool) (al : Option Addr) (cap : Nat) (w : World) (hl : l.length ≤ maxLen) (hA : SpAt w al l) (hT : Tb w) (hf : spFault l wide ≠ 0) :
    Calls Tryd.prog 12 #[.slice al l.length cap, .bool wide] w fun e w' => e = .returned (.tuple #[.string ⟨#[]⟩, errN (spFault l wide)]) ∧ Below w.heap.size w w' := by
  have hc := check_sp l wide al cap w hl hA hT
  rw [errN_pos hf] at hc ⊢
  unfold errV at hc ⊢
  go_enter Tryd.func12, Tryd.ntmps12
  go_wp2_with (go_at_call 23; go_must (refine hc.mono ?_); rintro e w1 ⟨rfl, hb1⟩)
  go_ret2
  exact ⟨rfl, hb1⟩
/-- Where a round of writing stands: the bytes so far, the span's box. -/
structure St (w : World) (B P : Nat) (x : Sp) (v : Value) (xs : List UInt8) (wc : World) : Prop where
  own : OwnM wc B v xs
  box : At wc P 36 #[.int .i64 x.f, .int .i64 x.t, .string x.s]
  ne : some P ≠ v.ownBlock
  below : Below B w wc
  le : B ≤ wc.heap.size
theorem St.grew {w : World} {B P : Nat} {x : Sp} {v v' : Value} {xs xs' : List UInt8} {wc w' : World} (h : St w B P x v xs wc) (ho : OwnM w' B v' xs') (hg : Grew v wc v' w') : St w B P x v' xs' w' :=
  ⟨ho, (hg.row h.box h.ne).1, (hg.row h.box h.ne).2, h.below.trans (h.own.below hg h.le), Nat.le_trans h.le hg.size⟩
theorem St.later {w : World} {B P : Nat} {x : Sp} {v : Value} {xs : List UInt8} {wc w' : World} (h : St w B P x v xs wc) (hb : Below wc.heap.size wc w') : St w B P x v xs w' :=
  ⟨h.own.later hb, h.box.later hb, h.ne, h.below.trans (hb.mono h.le), Nat.le_trans h.le hb.size⟩
theorem src_at {w : World} {g : Nat} {ys : List UInt8} {sv : Value} (h : At w g 5 (ys.map byteV).toArray) (hne : some g ≠ sv.ownBlock) : Src w (some ⟨g, 0, none⟩) ys sv := fun j y hj => by
  refine ⟨g, rfl, h.lt, ?_, hne⟩
  rw [h.cell j]
  simp [hj]
theorem src_own {w : World} {B : Nat} {v sv : Value} {ys : List UInt8} (h : Own8 w B v ys) (hne : ∀ g, sv.ownBlock = some g → g < B) : ∃ al c, v = .slice al ys.length c ∧ Src w al ys sv := by
  have hc := fun g => World.ownsRow.cells h (g := g)
  obtain ⟨_, ⟨rfl, h2⟩ | ⟨g, cap, cur, rfl, h2, h3, _⟩⟩ := h
  · have e : ys = [] := List.eq_nil_of_length_eq_zero h2
    subst e
    exact ⟨none, 0, rfl, fun j y hj => by simp at hj⟩
  · refine ⟨some ⟨g, 0, none⟩, cap, rfl, fun j y hj => ⟨g, rfl, (Array.getElem?_eq_some_iff.1 h3).1, ?_, fun e => ?_⟩⟩
    · have := hc g rfl j (byteV y) (by simp [hj])
      rw [Lib.add_plain, Nat.zero_add] at this
      exact this
    · have := hne g e.symm; omega
theorem units_len40 {s : ByteArray} {rs : List Nat} (h : rns s.data.toList = some rs) (hs : s.data.toList.length ≤ 40) : (unitsL rs).length ≤ 160 := by
  obtain ⟨_, h2⟩ := rns_some _ _ rs (Nat.le_refl _) h
  have a := (rns_len rs).1
  rw [← h2] at a
  have b := unitsL_len rs
  omega
set_option maxHeartbeats 8000000 in
theorem write_ok_false (l : List Sp) (al : Option Addr) (cap : Nat) (w : World) (hl : l.length ≤ maxLen) (hA : SpAt w al l) (hT : Tb w) (hf : spFault l false = 0) :
    Calls Tryd.prog 12 #[.slice al l.length cap, .bool false] w fun e w' => e = .returned (.tuple #[.string ⟨(spsT false l).toArray⟩, .nilIface]) ∧ Below w.heap.size w w' := by
  have hc := check_sp l false al cap w hl hA hT
  rw [hf, errN_0] at hc
  have HA := hid hA
  have HF := hid (spFault_ok hf)
  have hl3 : l.length ≤ 300 := (spFault_ok hf).1
  clear hA hT hf hl
  go_enter Tryd.func12, Tryd.ntmps12
  go_wp2_with (go_at_call 23; go_must (refine hc.mono ?_); rintro e w1 ⟨rfl, hb1⟩; obtain ⟨vb, wb, hcv, hown, hb2⟩ := run_convM w1 (⟨#[49, 32, 98, 101, 103, 105, 110, 99, 111, 100, 101, 115, 112, 97, 99, 101, 114, 97, 110, 103, 101, 10]⟩ ++ ⟨#[60, 48, 48, 62, 32, 60, 70, 70, 62]⟩ ++ ⟨#[10]⟩ ++ ⟨#[101, 110, 100, 99, 111, 100, 101, 115, 112, 97, 99, 101, 114, 97, 110, 103, 101]⟩ ++ ⟨#[10]⟩) (by decide))
  have hown0 : OwnM wb w.heap.size vb (headT false) := by
    obtain ⟨g, q1, q2, q3, q4, q5, q6⟩ := hown
    exact ⟨g, q1, q2, q3, q4, Nat.le_trans hb1.size q5, q6⟩
  have hB0 : Below w.heap.size w wb := chn' hb1 hb2
  clear hown hcv hb1 hb2 hc
  go_loopw [8, 26] (fun t i wr => ∃ k : Nat, i = .int .i64 k ∧ k ≤ l.length ∧ OwnM wr w.heap.size t (headT false ++ (l.take k).flatMap (spT false)) ∧ Below w.heap.size w wr) (fun _ i _ => l.length - (intOf i).toNat)
  case atStart => exact ⟨0, rfl, Nat.zero_le _, by simpa using hown0, hB0⟩
  case round =>
    clear hown0 hB0
    obtain ⟨k, rfl, hk, hown, hB⟩ := hrel
    have hBs := hB.size
    have hpl : (headT false ++ (l.take k).flatMap (spT false)).length ≤ 170000 := by
      have a := headT_len false
      have b := flat_len false (l.take k) (fun x hx => by
        have q := (HF.out.2 x (List.mem_of_mem_take hx)).2.2.2.1
        have : x.s.data.toList.length = x.s.size := by simp
        omega)
      have c : (l.take k).length ≤ 300 := by rw [List.length_take]; omega
      rw [List.length_append]; omega
    by_cases hkl : k < l.length
    · have hkl' : (k : Int) < l.length := by omega
      have HT := hid (show l.take (k + 1) = l.take k ++ [l[k]] from List.take_succ_eq_append_getElem hkl)
      obtain ⟨f0, f1, f2, hmay⟩ := HF.out.2 l[k] (List.getElem_mem hkl)
      obtain ⟨b, off, rfl, hbl, g0, g1, g2, _, _, _⟩ := (HA.out.later hB) k l[k] (List.getElem?_eq_getElem hkl)
      generalize l[k] = x at *
      obtain ⟨xf, xt, s⟩ := x
      dsimp only at f0 f1 f2 hmay g0 g1 g2
      obtain ⟨cf, rfl⟩ : ∃ n : Nat, xf = n := ⟨xf.toNat, by omega⟩
      obtain ⟨ct, rfl⟩ : ∃ n : Nat, xt = n := ⟨xt.toNat, by omega⟩
      obtain ⟨a, r, q1, _, _, _, _, _, _, q8⟩ := mayT_open hmay
      have hrs : runesOf s.data.toList = a ++ [r] := by unfold runesOf; rw [q1]; rfl
      have HS := hid (show spT false ⟨cf, ct, s⟩ = wB ++ (strH (cdB cf false) ++ (32 :: (strH (cdB ct false) ++ (32 :: (strH (unitsL (a ++ [r])) ++ (10 :: wE)))))) by unfold spT; dsimp only; rw [hrs, Int.toNat_natCast, Int.toNat_natCast])
      have hcf : (cf : Int) ≤ mostOf false := by omega
      have hct : (ct : Int) ≤ mostOf false := f2
      have HQ := hid (And.intro q1 q8)
      have hul := units_len40 q1 q8
      clear f0 f1 f2 hmay q1 q8 hrs
      generalize hpre : headT false ++ (l.take k).flatMap (spT false) = pre at *
      have HPR := hid hpre
      clear hpre
      have hne : some wr.heap.size ≠ u8.ownBlock := fun e => by have := (hown.lt _ e.symm).2; omega
      have S0 : St w w.heap.size wr.heap.size ⟨cf, ct, s⟩ u8 pre (wr.alloc (.cells #[.int .i64 cf, .int .i64 ct, .string s] 36)) :=
        ⟨hown.alloc _, At.new wr _ _ rfl, hne, hB.alloc hBs _, by simp; omega⟩
      clear hown hB hne
      go_wp2_with (at_builtin; refine wpAppMs rfl (.tmp 30) (.const (.string ⟨#[49, 32, 98, 101, 103, 105, 110, 98, 102, 114, 97, 110, 103, 101, 10]⟩)) rfl w.heap.size _ pre rfl S0.own _ rfl wB rfl (by show pre.length + 15 ≤ 1000000000; omega) S0.le ?_)
      intro v1 w1 ho1 hg1
      have S1 := S0.grew ho1 hg1
      have P1 : wr.heap.size < w1.heap.size := S1.box.lt
      clear S0 ho1 hg1 g0 g1 g2
      have x0 := S1.box.cell 0
      have x1 := S1.box.cell 1
      have x2 := S1.box.cell 2
      simp at x0 x1 x2
      have L1 : (pre ++ wB).length ≤ 171000 := by rw [List.length_append]; have : wB.length = 15 := rfl; omega
      go_wp2_with (go_at_call 30; fail)
      go_at_call 30
      refine (codeBytes_says cf false _ hcf).mono ?_
      rintro e w2 ⟨rfl, hat, hb⟩
      have hne2 : some w1.heap.size ≠ v1.ownBlock := fun e => by have := (S1.own.lt _ e.symm).2; omega
      have S2 := S1.later hb
      have hsrc := src_at hat hne2
      have hcl := cdB_len cf false
      clear S1 hat hb hne2 x0 x1 x2
      go_wp2_with (go_at_call 29; fail)
      go_at_call 29
      refine (addHex_says w.heap.size v1 (pre ++ wB) (cdB cf false) _ _ _ (by omega) S2.own S2.le (by omega) hsrc).mono ?_
      rintro e w3 ⟨v3, rfl, ho3, hg3⟩
      have S3 := S2.grew ho3 hg3
      have L3 : (pre ++ wB ++ strH (cdB cf false)).length ≤ 172000 := by rw [List.length_append, strH_len]; omega
      clear S2 ho3 hg3 hsrc
      go_wp2_with (at_builtin; refine wpAppM rfl (.tmp 37) (.tmp 38) rfl w.heap.size _ _ rfl (S3.own.alloc _) w3.heap.size [32] 1 1 rfl (0, 0) rfl _ rfl (heap_alloc_new _ _) (by omega) (by simp; have := S3.le; omega) ?_)
      intro v4 w4 ho4 hg4
      have S4 := S3.grew ho4 hg4.unalloc
      have L4 : (pre ++ wB ++ strH (cdB cf false) ++ [32]).length ≤ 173000 := by rw [List.length_append]; simp only [List.length_singleton]; omega
      have P4 : wr.heap.size < w4.heap.size := S4.box.lt
      clear S3 ho4 hg4
      obtain ⟨pre4, hp4⟩ : ∃ p, p = pre ++ wB ++ strH (cdB cf false) ++ [32] := ⟨_, rfl⟩
      replace S4 : St w w.heap.size wr.heap.size ⟨cf, ct, s⟩ v4 pre4 w4 := by rw [hp4]; simpa using S4
      rw [← hp4] at L4
      have HP4 := hid hp4
      clear hp4 L1 L3
      have x0 := S4.box.cell 0
      have x1 := S4.box.cell 1
      have x2 := S4.box.cell 2
      simp at x0 x1 x2
      go_wp2_with (go_at_call 30; fail)
      go_at_call 30
      refine (codeBytes_says ct false _ hct).mono ?_
      rintro e w5 ⟨rfl, hat, hb⟩
      have hne5 : some w4.heap.size ≠ v4.ownBlock := fun e => by have := (S4.own.lt _ e.symm).2; omega
      have S5 := S4.later hb
      have hsrc := src_at hat hne5
      have hcl := cdB_len ct false
      clear S4 hat hb hne5 x0 x1 x2
      go_wp2_with (go_at_call 29; fail)
      go_at_call 29
      refine (addHex_says w.heap.size v4 pre4 (cdB ct false) _ _ _ (by omega) S5.own S5.le (by omega) hsrc).mono ?_
      rintro e w6 ⟨v6, rfl, ho6, hg6⟩
      have S6 := S5.grew ho6 hg6
      have L6 : (pre4 ++ strH (cdB ct false)).length ≤ 174000 := by rw [List.length_append, strH_len]; omega
      clear S5 ho6 hg6 hsrc
      go_wp2_with (at_builtin; refine wpAppM rfl (.tmp 45) (.tmp 46) rfl w.heap.size _ _ rfl (S6.own.alloc _) w6.heap.size [32] 1 1 rfl (0, 0) rfl _ rfl (heap_alloc_new _ _) (by omega) (by simp; have := S6.le; omega) ?_)
      intro v7 w7 ho7 hg7
      have S7 := S6.grew ho7 hg7.unalloc
      have L7 : (pre4 ++ strH (cdB ct false) ++ [32]).length ≤ 175000 := by rw [List.length_append]; simp only [List.length_singleton]; omega
      have P7 : wr.heap.size < w7.heap.size := S7.box.lt
      clear S6 ho7 hg7
      obtain ⟨pre7, hp7⟩ : ∃ p, p = pre4 ++ strH (cdB ct false) ++ [32] := ⟨_, rfl⟩
      replace S7 : St w w.heap.size wr.heap.size ⟨cf, ct, s⟩ v7 pre7 w7 := by rw [hp7]; simpa using S7
      rw [← hp7] at L7
      have HP7 := hid hp7
      clear hp7 L6 L4
      have x0 := S7.box.cell 0
      have x1 := S7.box.cell 1
      have x2 := S7.box.cell 2
      simp at x0 x1 x2
      go_wp2_with (go_at_call 31; fail)
      go_at_call 31
      refine (units_says s (a ++ [r]) _ (by have := HQ.out.2; have : s.data.toList.length = s.size := by simp
                                            omega) HQ.out.1).mono ?_
      rintro e w8 ⟨v8, rfl, ho8, hb⟩
      obtain ⟨al8, c8, rfl, hsrc⟩ := src_own (sv := v7) ho8 (fun g e => by have := (S7.own.lt _ e).2; omega)
      have S8 := S7.later hb
      clear S7 ho8 hb x0 x1 x2
      go_wp2_with (go_at_call 29; fail)
      go_at_call 29
      refine (addHex_says w.heap.size v7 pre7 (unitsL (a ++ [r])) _ _ _ (by omega) S8.own S8.le (by omega) hsrc).mono ?_
      rintro e w9 ⟨v9, rfl, ho9, hg9⟩
      have S9 := S8.grew ho9 hg9
      have L9 : (pre7 ++ strH (unitsL (a ++ [r]))).length ≤ 176000 := by rw [List.length_append, strH_len]; omega
      clear S8 ho9 hg9 hsrc
      go_wp2_with (at_builtin; refine wpAppM rfl (.tmp 52) (.tmp 53) rfl w.heap.size _ _ rfl (S9.own.alloc _) w9.heap.size [10] 1 1 rfl (0, 0) rfl _ rfl (heap_alloc_new _ _) (by omega) (by simp; have := S9.le; omega) ?_)
      intro va wa hoa hga
      have Sa := S9.grew hoa hga.unalloc
      have La : (pre7 ++ strH (unitsL (a ++ [r])) ++ [10]).length ≤ 177000 := by rw [List.length_append]; simp only [List.length_singleton]; omega
      clear S9 hoa hga
      go_wp2_with (at_builtin; refine wpAppMs rfl (.tmp 55) (.const (.string ⟨#[101, 110, 100, 98, 102, 114, 97, 110, 103, 101, 10]⟩)) rfl w.heap.size _ _ rfl Sa.own _ rfl wE rfl (by show List.length _ + 11 ≤ 1000000000; have q := La; simp only [List.length_append, List.length_cons, List.length_nil] at q ⊢; omega) Sa.le ?_)
      intro vz wz hoz hgz
      have Sz := Sa.grew hoz hgz
      clear Sa hoz hgz
      go_wp2
      go_roundw
      case rel =>
        refine ⟨k + 1, by go_num, by omega, ?_, Sz.below⟩
        rw [HT.out, List.flatMap_append, ← List.append_assoc, HPR.out, List.flatMap_singleton, HS.out]
        have e := Sz.own
        rw [HP7.out, HP4.out] at e
        simpa using e
      case measure => simp [intOf]; omega
    · have hkl' : ¬ (k : Int) < l.length := by omega
      have hcv := ownM_conv hown
      go_wp2
      go_ret2
      refine ⟨?_, hB⟩
      rw [List.take_of_length_le (by omega)]
      rfl
set_option maxHeartbeats 8000000 in
theorem write_ok_true (l : List Sp) (al : Option Addr) (cap : Nat) (w : World) (hl : l.length ≤ maxLen) (hA : SpAt w al l) (hT : Tb w) (hf : spFault l true = 0) :
    Calls Tryd.prog 12 #[.slice al l.length cap, .bool true] w fun e w' => e = .returned (.tuple #[.string ⟨(spsT true l).toArray⟩, .nilIface]) ∧ Below w.heap.size w w' := by
  have hc := check_sp l true al cap w hl hA hT
  rw [hf, errN_0] at hc
  have HA := hid hA
  have HF := hid (spFault_ok hf)
  have hl3 : l.length ≤ 300 := (spFault_ok hf).1
  clear hA hT hf hl
  go_enter Tryd.func12, Tryd.ntmps12
  go_wp2_with (go_at_call 23; go_must (refine hc.mono ?_); rintro e w1 ⟨rfl, hb1⟩; obtain ⟨vb, wb, hcv, hown, hb2⟩ := run_convM w1 (⟨#[49, 32, 98, 101, 103, 105, 110, 99, 111, 100, 101, 115, 112, 97, 99, 101, 114, 97, 110, 103, 101, 10]⟩ ++ ⟨#[60, 48, 48, 48, 48, 62, 32, 60, 70, 70, 70, 70, 62]⟩ ++ ⟨#[10]⟩ ++ ⟨#[101, 110, 100, 99, 111, 100, 101, 115, 112, 97, 99, 101, 114, 97, 110, 103, 101]⟩ ++ ⟨#[10]⟩) (by decide))
  have hown0 : OwnM wb w.heap.size vb (headT true) := by
    obtain ⟨g, q1, q2, q3, q4, q5, q6⟩ := hown
    exact ⟨g, q1, q2, q3, q4, Nat.le_trans hb1.size q5, q6⟩
  have hB0 : Below w.heap.size w wb := chn' hb1 hb2
  clear hown hcv hb1 hb2 hc
  go_loopw [8, 26] (fun t i wr => ∃ k : Nat, i = .int .i64 k ∧ k ≤ l.length ∧ OwnM wr w.heap.size t (headT true ++ (l.take k).flatMap (spT true)) ∧ Below w.heap.size w wr) (fun _ i _ => l.length - (intOf i).toNat)
  case atStart => exact ⟨0, rfl, Nat.zero_le _, by simpa using hown0, hB0⟩
  case round =>
    clear hown0 hB0
    obtain ⟨k, rfl, hk, hown, hB⟩ := hrel
    have hBs := hB.size
    have hpl : (headT true ++ (l.take k).flatMap (spT true)).length ≤ 170000 := by
      have a := headT_len true
      have b := flat_len true (l.take k) (fun x hx => by
        have q := (HF.out.2 x (List.mem_of_mem_take hx)).2.2.2.1
        have : x.s.data.toList.length = x.s.size := by simp
        omega)
      have c : (l.take k).length ≤ 300 := by rw [List.length_take]; omega
      rw [List.length_append]; omega
    by_cases hkl : k < l.length
    · have hkl' : (k : Int) < l.length := by omega
      have HT := hid (show l.take (k + 1) = l.take k ++ [l[k]] from List.take_succ_eq_append_getElem hkl)
      obtain ⟨f0, f1, f2, hmay⟩ := HF.out.2 l[k] (List.getElem_mem hkl)
      obtain ⟨b, off, rfl, hbl, g0, g1, g2, _, _, _⟩ := (HA.out.later hB) k l[k] (List.getElem?_eq_getElem hkl)
      generalize l[k] = x at *
      obtain ⟨xf, xt, s⟩ := x
      dsimp only at f0 f1 f2 hmay g0 g1 g2
      obtain ⟨cf, rfl⟩ : ∃ n : Nat, xf = n := ⟨xf.toNat, by omega⟩
      obtain ⟨ct, rfl⟩ : ∃ n : Nat, xt = n := ⟨xt.toNat, by omega⟩
      obtain ⟨a, r, q1, _, _, _, _, _, _, q8⟩ := mayT_open hmay
      have hrs : runesOf s.data.toList = a ++ [r] := by unfold runesOf; rw [q1]; rfl
      have HS := hid (show spT true ⟨cf, ct, s⟩ = wB ++ (strH (cdB cf true) ++ (32 :: (strH (cdB ct true) ++ (32 :: (strH (unitsL (a ++ [r])) ++ (10 :: wE)))))) by unfold spT; dsimp only; rw [hrs, Int.toNat_natCast, Int.toNat_natCast])
      have hcf : (cf : Int) ≤ mostOf true := by omega
      have hct : (ct : Int) ≤ mostOf true := f2
      have HQ := hid (And.intro q1 q8)
      have hul := units_len40 q1 q8
      clear f0 f1 f2 hmay q1 q8 hrs
      generalize hpre : headT true ++ (l.take k).flatMap (spT true) = pre at *
      have HPR := hid hpre
      clear hpre
      have hne : some wr.heap.size ≠ u8.ownBlock := fun e => by have := (hown.lt _ e.symm).2; omega
      have S0 : St w w.heap.size wr.heap.size ⟨cf, ct, s⟩ u8 pre (wr.alloc (.cells #[.int .i64 cf, .int .i64 ct, .string s] 36)) :=
        ⟨hown.alloc _, At.new wr _ _ rfl, hne, hB.alloc hBs _, by simp; omega⟩
      clear hown hB hne
      go_wp2_with (at_builtin; refine wpAppMs rfl (.tmp 30) (.const (.string ⟨#[49, 32, 98, 101, 103, 105, 110, 98, 102, 114, 97, 110, 103, 101, 10]⟩)) rfl w.heap.size _ pre rfl S0.own _ rfl wB rfl (by show pre.length + 15 ≤ 1000000000; omega) S0.le ?_)
      intro v1 w1 ho1 hg1
      have S1 := S0.grew ho1 hg1
      have P1 : wr.heap.size < w1.heap.size := S1.box.lt
      clear S0 ho1 hg1 g0 g1 g2
      have x0 := S1.box.cell 0
      have x1 := S1.box.cell 1
      have x2 := S1.box.cell 2
      simp at x0 x1 x2
      have L1 : (pre ++ wB).length ≤ 171000 := by rw [List.length_append]; have : wB.length = 15 := rfl; omega
      go_wp2_with (go_at_call 30; fail)
      go_at_call 30
      refine (codeBytes_says cf true _ hcf).mono ?_
      rintro e w2 ⟨rfl, hat, hb⟩
      have hne2 : some w1.heap.size ≠ v1.ownBlock := fun e => by have := (S1.own.lt _ e.symm).2; omega
      have S2 := S1.later hb
      have hsrc := src_at hat hne2
      have hcl := cdB_len cf true
      clear S1 hat hb hne2 x0 x1 x2
      go_wp2_with (go_at_call 29; fail)
      go_at_call 29
      refine (addHex_says w.heap.size v1 (pre ++ wB) (cdB cf true) _ _ _ (by omega) S2.own S2.le (by omega) hsrc).mono ?_
      rintro e w3 ⟨v3, rfl, ho3, hg3⟩
      have S3 := S2.grew ho3 hg3
      have L3 : (pre ++ wB ++ strH (cdB cf true)).length ≤ 172000 := by rw [List.length_append, strH_len]; omega
      clear S2 ho3 hg3 hsrc
      go_wp2_with (at_builtin; refine wpAppM rfl (.tmp 37) (.tmp 38) rfl w.heap.size _ _ rfl (S3.own.alloc _) w3.heap.size [32] 1 1 rfl (0, 0) rfl _ rfl (heap_alloc_new _ _) (by omega) (by simp; have := S3.le; omega) ?_)
      intro v4 w4 ho4 hg4
      have S4 := S3.grew ho4 hg4.unalloc
      have L4 : (pre ++ wB ++ strH (cdB cf true) ++ [32]).length ≤ 173000 := by rw [List.length_append]; simp only [List.length_singleton]; omega
      have P4 : wr.heap.size < w4.heap.size := S4.box.lt
      clear S3 ho4 hg4
      obtain ⟨pre4, hp4⟩ : ∃ p, p = pre ++ wB ++ strH (cdB cf true) ++ [32] := ⟨_, rfl⟩
      replace S4 : St w w.heap.size wr.heap.size ⟨cf, ct, s⟩ v4 pre4 w4 := by rw [hp4]; simpa using S4
      rw [← hp4] at L4
      have HP4 := hid hp4
      clear hp4 L1 L3
      have x0 := S4.box.cell 0
      have x1 := S4.box.cell 1
      have x2 := S4.box.cell 2
      simp at x0 x1 x2
      go_wp2_with (go_at_call 30; fail)
      go_at_call 30
      refine (codeBytes_says ct true _ hct).mono ?_
      rintro e w5 ⟨rfl, hat, hb⟩
      have hne5 : some w4.heap.size ≠ v4.ownBlock := fun e => by have := (S4.own.lt _ e.symm).2; omega
      have S5 := S4.later hb
      have hsrc := src_at hat hne5
      have hcl := cdB_len ct true
      clear S4 hat hb hne5 x0 x1 x2
      go_wp2_with (go_at_call 29; fail)
      go_at_call 29
      refine (addHex_says w.heap.size v4 pre4 (cdB ct true) _ _ _ (by omega) S5.own S5.le (by omega) hsrc).mono ?_
      rintro e w6 ⟨v6, rfl, ho6, hg6⟩
      have S6 := S5.grew ho6 hg6
      have L6 : (pre4 ++ strH (cdB ct true)).length ≤ 174000 := by rw [List.length_append, strH_len]; omega
      clear S5 ho6 hg6 hsrc
      go_wp2_with (at_builtin; refine wpAppM rfl (.tmp 45) (.tmp 46) rfl w.heap.size _ _ rfl (S6.own.alloc _) w6.heap.size [32] 1 1 rfl (0, 0) rfl _ rfl (heap_alloc_new _ _) (by omega) (by simp; have := S6.le; omega) ?_)
      intro v7 w7 ho7 hg7
      have S7 := S6.grew ho7 hg7.unalloc
      have L7 : (pre4 ++ strH (cdB ct true) ++ [32]).length ≤ 175000 := by rw [List.length_append]; simp only [List.length_singleton]; omega
      have P7 : wr.heap.size < w7.heap.size := S7.box.lt
      clear S6 ho7 hg7
      obtain ⟨pre7, hp7⟩ : ∃ p, p = pre4 ++ strH (cdB ct true) ++ [32] := ⟨_, rfl⟩
      replace S7 : St w w.heap.size wr.heap.size ⟨cf, ct, s⟩ v7 pre7 w7 := by rw [hp7]; simpa using S7
      rw [← hp7] at L7
      have HP7 := hid hp7
      clear hp7 L6 L4
      have x0 := S7.box.cell 0
      have x1 := S7.box.cell 1
      have x2 := S7.box.cell 2
      simp at x0 x1 x2
      go_wp2_with (go_at_call 31; fail)
      go_at_call 31
      refine (units_says s (a ++ [r]) _ (by have := HQ.out.2; have : s.data.toList.length = s.size := by simp
                                            omega) HQ.out.1).mono ?_
      rintro e w8 ⟨v8, rfl, ho8, hb⟩
      obtain ⟨al8, c8, rfl, hsrc⟩ := src_own (sv := v7) ho8 (fun g e => by have := (S7.own.lt _ e).2; omega)
      have S8 := S7.later hb
      clear S7 ho8 hb x0 x1 x2
      go_wp2_with (go_at_call 29; fail)
      go_at_call 29
      refine (addHex_says w.heap.size v7 pre7 (unitsL (a ++ [r])) _ _ _ (by omega) S8.own S8.le (by omega) hsrc).mono ?_
      rintro e w9 ⟨v9, rfl, ho9, hg9⟩
      have S9 := S8.grew ho9 hg9
      have L9 : (pre7 ++ strH (unitsL (a ++ [r]))).length ≤ 176000 := by rw [List.length_append, strH_len]; omega
      clear S8 ho9 hg9 hsrc
      go_wp2_with (at_builtin; refine wpAppM rfl (.tmp 52) (.tmp 53) rfl w.heap.size _ _ rfl (S9.own.alloc _) w9.heap.size [10] 1 1 rfl (0, 0) rfl _ rfl (heap_alloc_new _ _) (by omega) (by simp; have := S9.le; omega) ?_)
      intro va wa hoa hga
      have Sa := S9.grew hoa hga.unalloc
      have La : (pre7 ++ strH (unitsL (a ++ [r])) ++ [10]).length ≤ 177000 := by rw [List.length_append]; simp only [List.length_singleton]; omega
      clear S9 hoa hga
      go_wp2_with (at_builtin; refine wpAppMs rfl (.tmp 55) (.const (.string ⟨#[101, 110, 100, 98, 102, 114, 97, 110, 103, 101, 10]⟩)) rfl w.heap.size _ _ rfl Sa.own _ rfl wE rfl (by show List.length _ + 11 ≤ 1000000000; have q := La; simp only [List.length_append, List.length_cons, List.length_nil] at q ⊢; omega) Sa.le ?_)
      intro vz wz hoz hgz
      have Sz := Sa.grew hoz hgz
      clear Sa hoz hgz
      go_wp2
      go_roundw
      case rel =>
        refine ⟨k + 1, by go_num, by omega, ?_, Sz.below⟩
        rw [HT.out, List.flatMap_append, ← List.append_assoc, HPR.out, List.flatMap_singleton, HS.out]
        have e := Sz.own
        rw [HP7.out, HP4.out] at e
        simpa using e
      case measure => simp [intOf]; omega
    · have hkl' : ¬ (k : Int) < l.length := by omega
      have hcv := ownM_conv hown
      go_wp2
      go_ret2
      refine ⟨?_, hB⟩
      rw [List.take_of_length_le (by omega)]
      rfl
end Go.Proofs.YtggojafapieliabDoor
