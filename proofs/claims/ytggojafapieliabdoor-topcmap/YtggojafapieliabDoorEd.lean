/-
  Reading a program: a span is put in behind all others.
-/
import Derived.Test.YtggojafapieliabDoorEc
import Derived.Maps.AppendAt
import Derived.Deep.AppendLies
import Derived.Test.YtggojafapieliabDoorAq
import Derived.Deep.RegionWith
namespace Go.Proofs.YtggojafapieliabDoor
open Go.RowKit
set_option maxRecDepth 100000
attribute [local go_sem ↓] Go.wp_at_zero Go.wp_at_succ

theorem isNaN_int (a : Int) (w : World) : Calls Tryd.prog 111 #[.int .i64 a] w fun e w' => e = .returned (.bool false) ∧ w' = w := by
  go_enter Tryd.func111, Tryd.ntmps111
  go_wp2
  go_ret
  exact ⟨by first | rfl | (simp; done), rfl⟩
theorem cmp_less (a b : Int) (w : World) (h : a < b) : Calls Tryd.prog 94 #[.int .i64 a, .int .i64 b] w fun e w' => e = .returned (.int .i64 (-1)) ∧ w' = w := by
  go_enter Tryd.func94, Tryd.ntmps94
  go_wp2_with (go_at_call 111; refine (isNaN_int _ _).mono ?_; rintro e w1 ⟨rfl, rfl⟩)
  go_ret
  exact ⟨rfl, rfl⟩
theorem byFrom_less (f t x : Int) (s : ByteArray) (w : World) (h : f < x) : Calls Tryd.prog 93 #[.agg #[.int .i64 f, .int .i64 t, .string s], .int .i64 x] w fun e w' => e = .returned (.int .i64 (-1)) ∧ Below w.heap.size w w' := by
  have H := hid (fun W => cmp_less f x W h)
  go_enter Tryd.func93, Tryd.ntmps93
  go_wp2_with (go_at_call 94; refine (H.out _).mono ?_; rintro e w1 ⟨rfl, rfl⟩)
  go_ret
  exact ⟨rfl, by go_grown⟩
set_option maxHeartbeats 2000000 in
theorem find_end {w : World} (x : Int) (l : List Sp) (al : Option Addr) (cl : Nat) (hl : l.length ≤ 1000) (hL : SpAt w al l) (hx : ∀ y ∈ l, y.f < x) :
    Calls Tryd.prog 95 #[.slice al l.length cl, .int .i64 x, .func (.func 93) #[] #[]] w fun e w' => e = .returned (.tuple #[.int .i64 (l.length : Nat), .bool false]) ∧ Below w.heap.size w w' := by
  have HL := hid hL
  have HX := hid hx
  clear hL hx
  obtain ⟨n, hn⟩ : ∃ n, n = l.length := ⟨_, rfl⟩
  rw [← hn] at hl ⊢
  have HN := hid hn
  clear hn
  go_enter Tryd.func95, Tryd.ntmps95
  go_wp2_with fail
  go_loopw [9, 10] (fun iv jv wr => ∃ i : Nat, iv = .int .i64 i ∧ jv = .int .i64 n ∧ i ≤ n ∧ Below w.heap.size w wr) (fun iv jv _ => (intOf jv).toNat - (intOf iv).toNat)
  case atStart => exact ⟨0, rfl, rfl, Nat.zero_le _, Below.refl _ _⟩
  case round =>
    obtain ⟨i, rfl, rfl, hij, hK⟩ := hrel
    by_cases hlt : i < n
    · have hlt' : (i : Int) < n := by omega
      obtain ⟨h, hh⟩ : ∃ h, h = (i + n) / 2 := ⟨_, rfl⟩
      have hhl : h < l.length := by have := HN.out; omega
      have hhn : (h : Int) < n := by omega
      obtain ⟨b, off, rfl, hbl, g0, g1, g2, _, _, _⟩ := (HL.out.later hK) h l[h] (List.getElem?_eq_getElem hhl)
      have HB := hid (fun W => byFrom_less l[h].f l[h].t x l[h].s W (HX.out _ (List.getElem_mem hhl)))
      generalize l[h] = y at *
      have he : ((i : Int) + (n : Int)) / 2 = (h : Int) := by omega
      have HH := hid hh
      clear hh
      have HK := hid hK
      clear hK
      go_wp2_with (go_at_call 93; refine (HB.out _).mono ?_; rintro e w1 ⟨rfl, hb1⟩)
      go_roundw
      case rel => exact ⟨h + 1, by go_num, rfl, by have := HH.out; omega, chn' HK.out hb1⟩
      case measure => have := HH.out; simp [intOf]; omega
    · obtain rfl : i = n := by omega
      have hlt' : ¬ (i : Int) < i := by omega
      have hd : decide ((i : Int) < (i : Int)) = false := decide_eq_false hlt'
      go_wp2_with fail
      go_ret2
      exact ⟨rfl, hK⟩
/-- The cells of spans. -/
def cls (l : List Sp) : List Value := l.flatMap fun x => [.int .i64 x.f, .int .i64 x.t, .string x.s]
theorem cls_at : ∀ (l : List Sp) (i : Nat) (x : Sp), l[i]? = some x → (cls l)[i * 3]? = some (.int .i64 x.f) ∧ (cls l)[i * 3 + 1]? = some (.int .i64 x.t) ∧ (cls l)[i * 3 + 2]? = some (.string x.s)
  | [], i, x, h => by simp at h
  | y :: l, 0, x, h => by
    simp at h; subst h
    exact ⟨rfl, rfl, rfl⟩
  | y :: l, i + 1, x, h => by
    have q := cls_at l i x (by simpa using h)
    have e : cls (y :: l) = .int .i64 y.f :: .int .i64 y.t :: .string y.s :: cls l := rfl
    rw [e, show (i + 1) * 3 = i * 3 + 1 + 1 + 1 by omega, show i * 3 + 1 + 1 + 1 + 1 = (i * 3 + 1) + 1 + 1 + 1 by omega, show i * 3 + 1 + 1 + 1 + 2 = (i * 3 + 2) + 1 + 1 + 1 by omega]
    simp only [List.getElem?_cons_succ]
    exact q
/-- A row of spans that was made. -/
def Own3 (w : World) (B : Nat) (v : Value) (l : List Sp) : Prop := w.ownsRow B 36 3 v l.length (cls l)
/-- Numbers that an int has room for. -/
def SpOk (x : Sp) : Prop := (-9223372036854775808 ≤ x.f ∧ x.f ≤ 9223372036854775807) ∧ (-9223372036854775808 ≤ x.t ∧ x.t ≤ 9223372036854775807) ∧ x.s.size ≤ maxLen
theorem Own3.at {w : World} {B : Nat} {v : Value} {l : List Sp} (h : Own3 w B v l) (hk : ∀ x ∈ l, SpOk x) : ∃ al c, v = .slice al l.length c ∧ SpAt w al l := by
  have hc := fun g => World.ownsRow.cells h (g := g)
  obtain ⟨_, ⟨rfl, h2⟩ | ⟨g, cap, cur, rfl, h2, h3, h4, _⟩⟩ := h
  · obtain rfl := List.eq_nil_of_length_eq_zero h2
    exact ⟨none, 0, rfl, fun i x hx => by simp at hx⟩
  · refine ⟨_, cap, rfl, fun i x hx => ?_⟩
    obtain ⟨q0, q1, q2⟩ := cls_at l i x hx
    have z := hk x (List.mem_of_getElem? hx)
    have k0 := hc g rfl _ _ q0
    have k1 := hc g rfl _ _ q1
    have k2 := hc g rfl _ _ q2
    rw [Lib.add_plain, Nat.zero_add] at k0 k1 k2
    exact ⟨g, 0, rfl, (Array.getElem?_eq_some_iff.1 h3).1, by rw [Nat.zero_add]; exact k0, by rw [Nat.zero_add]; exact k1, by rw [Nat.zero_add]; exact k2, z.1, z.2.1, z.2.2⟩
theorem Own3.keep {w w' : World} {P B : Nat} {v : Value} {l : List Sp} (h : Own3 w B v l) (k : KeepBut P w w') (hP : P < B) : Own3 w' B v l :=
  World.ownsRow.kept h (row := some P) ⟨k.os, k.tape, k.output, k.size, fun i hi hne => k.block i hi (fun e => hne (by rw [e]))⟩ (.inr fun e => by have := (World.ownsRow.lt h P e).1; omega)
theorem Own3.later {w w' : World} {B : Nat} {v : Value} {l : List Sp} (h : Own3 w B v l) (hb : Below w.heap.size w w') : Own3 w' B v l :=
  World.ownsRow.kept h (row := none) ⟨hb.os, hb.tape, hb.output, hb.size, fun k hk _ => hb.block k hk⟩ (by cases v.ownBlock <;> simp)
theorem infoSp : (Tryd.prog.info? 36).map (fun i => (i.zero, i.size, i.bytes)) = some (some (.agg #[.int .i64 0, .int .i64 0, .string ByteArray.empty]), 3, 32) := by kernel_rfl
set_option maxHeartbeats 2000000 in
theorem insert_end {w : World} {B : Nat} {v : Value} {l : List Sp} (hown : Own3 w B v l) (hB : B ≤ w.heap.size) (hn : l.length ≤ 1000) (vb : Nat) (x : Sp) (hvs : At w vb 36 #[.int .i64 x.f, .int .i64 x.t, .string x.s]) :
    Calls Tryd.prog 96 #[v, .int .i64 (l.length : Nat), .slice (some ⟨vb, 0, none⟩) 1 1] w fun e w' => ∃ v', e = .returned v' ∧ Own3 w' B v' (l ++ [x]) ∧ w.grownBy w' v.ownBlock := by
  obtain ⟨iF, hiF, hf0, hf1, hf2⟩ := info_parts infoSp
  have HO : Hid (w.ownsRow B 36 3 v l.length (cls l)) := hid hown
  have HV := hid hvs
  have HE := hid (show cls (l ++ [x]) = cls l ++ [.int .i64 x.f, .int .i64 x.t, .string x.s] by unfold cls; rw [List.flatMap_append]; rfl)
  clear hvs
  obtain ⟨_, ⟨rfl, h0⟩ | ⟨g, cap, cur, rfl, _, _, hcap, hcm, _⟩⟩ := hown
  · obtain rfl := List.eq_nil_of_length_eq_zero h0
    go_enter Tryd.func96, Tryd.ntmps96
    go_wp2_with (at_builtin; refine wpList_append_own_at _ rfl (.tmp 23) (.tmp 24) 23 rfl B 36 iF _ 3 32 Tryd.underlying23 hiF hf0 hf1 hf2 rfl (by decide) _ _ _ rfl HO.out ⟨vb, 0, none⟩ 1 1 [.int .i64 x.f, .int .i64 x.t, .string x.s] rfl rfl (World.news_of_block HV.out) (by simp [Value.oneCell']) (by unfold maxLen; simp) (by simp) hB ?_)
    intro v2 w2 hown2 hgrow2 _ hat2
    go_wp2
    go_ret
    exact ⟨_, rfl, (show Own3 w2 B v2 [x] from hown2), hgrow2⟩
  · unfold maxLen at hcm
    obtain ⟨n, hnl⟩ : ∃ n, n = l.length := ⟨_, rfl⟩
    rw [← hnl] at HO hn hcap ⊢
    have HN := hid hnl
    clear hnl
    go_enter Tryd.func96, Tryd.ntmps96
    go_wp2_with (at_builtin; refine wpList_append_own_at _ rfl (.tmp 23) (.tmp 24) 23 rfl B 36 iF _ 3 32 Tryd.underlying23 hiF hf0 hf1 hf2 rfl (by decide) _ _ _ rfl HO.out ⟨vb, 0, none⟩ 1 1 [.int .i64 x.f, .int .i64 x.t, .string x.s] rfl rfl (World.news_of_block HV.out) (by simp [Value.oneCell']) (by unfold maxLen; omega) (by omega) hB ?_)
    all_goals
      intro v2 w2 hown2 hgrow2 _ hat2
      go_wp2
      go_ret
      refine ⟨_, rfl, ?_, hgrow2⟩
      unfold Own3
      rw [HE.out, List.length_append, ← HN.out]
      exact hown2
theorem keepBelow {P : Nat} {w w' : World} (h : KeepBut P w w') (hP : P ≤ w.heap.size) : Below P w w' := ⟨h.os, h.tape, h.output, h.size, fun k hk => h.block k (by omega) (by omega)⟩
theorem own3_len {w : World} {B : Nat} {v : Value} {l : List Sp} (h : Own3 w B v l) : ∃ al c, v = .slice al l.length c := by
  obtain ⟨_, ⟨rfl, h2⟩ | ⟨g, cap, cur, rfl, _⟩⟩ := h
  · exact ⟨none, 0, by rw [h2]⟩
  · exact ⟨some ⟨g, 0, none⟩, cap, rfl⟩
/-- A reader that has told spans. -/
def RdS (w : World) (P : Nat) (s : ByteArray) (a : Nat) (bt : Int) (l : List Sp) : Prop := ∃ v, RdC w P s a bt v ∧ Own3 w (P + 1) v l
theorem RdS.keep {w w' : World} {P : Nat} {s : ByteArray} {b : Nat} {bt : Int} {l : List Sp} {v : Value} (h : Own3 w (P + 1) v l) (hA : RdC w' P s b bt v) (k : KeepBut P w w') : RdS w' P s b bt l := ⟨v, hA, h.keep k (Nat.lt_succ_self P)⟩
set_option maxHeartbeats 1000000 in
theorem add_end (P : Nat) (s t : ByteArray) (a : Nat) (bt x y : Int) (l : List Sp) (w : World) (hl : l.length < 300) (hk : ∀ z ∈ l, SpOk z) (hx : ∀ z ∈ l, z.f < x) (hS : RdS w P s a bt l) :
    Calls Tryd.prog 70 #[.pointer (some ⟨P, 0, none⟩), .int .i64 x, .int .i64 y, .string t] w fun e w' => e = .returned .nilIface ∧ RdS w' P s a bt (l ++ [⟨x, y, t⟩]) ∧ Below P w w' := by
  obtain ⟨v, hA, hO⟩ := hS
  obtain ⟨al, c, rfl, hL⟩ := hO.at hk
  have c3 := hA.cell 3
  have z0 := hA.lt
  simp at c3
  have HA := hid hA
  have HO := hid hO
  have HL := hid hL
  have HX := hid hx
  have hll : (l.length : Int) < 300 := by omega
  obtain ⟨n, hn⟩ : ∃ n, n = l.length := ⟨_, rfl⟩
  have HF := hid (fun W (hW : SpAt W al l) => find_end x l al c (by omega) hW HX.out)
  have HI := hid (fun W (hW : Own3 W (P + 1) (.slice al l.length c) l) (h1 : P + 1 ≤ W.heap.size) vb => insert_end hW h1 (by omega) vb ⟨x, y, t⟩)
  rw [← hn] at HF HI hll c3
  have HN := hid hn
  clear hA hO hL hx hk hl hn
  go_enter Tryd.func70, Tryd.ntmps70
  go_wp2_with (go_at_call 95; fail)
  go_at_call 95
  refine (HF.out _ HL.out).mono ?_
  rintro e w1 ⟨rfl, hb1⟩
  have A1 := HA.out.later hb1
  have O1 := HO.out.later hb1
  have z1 := A1.lt
  have c3' := A1.cell 3
  simp at c3'
  rw [← HN.out] at c3' O1 A1
  go_wp2_with (go_at_call 96; fail)
  go_at_call 96
  refine (HI.out _ (Own3.later O1 (by go_grown)) (by simp; omega) _ (At.new w1 _ _ rfl)).mono ?_
  rintro e w2 ⟨v2, rfl, O2, hg2⟩
  have hne : some P ≠ (Value.slice al n c).ownBlock := fun e => by have := (World.ownsRow.lt O1 P e.symm).1; omega
  have A2 : RdC w2 P s a bt (.slice al n c) := (hg2.block P (by simp; omega) hne).trans (A1.alloc _)
  have B2 : Below P w w2 := by
    have q1 : Below P w (w1.alloc (.cells #[.int .i64 x, .int .i64 y, .string t] 36)) := (hb1.mono (by omega)).alloc (by omega) _
    exact q1.grown hg2 (by simp; omega) (fun k hk => by have := (World.ownsRow.lt O1 k hk).1; omega)
  obtain ⟨a2, c2, rfl⟩ := own3_len O2
  rw [show (l ++ [⟨x, y, t⟩] : List Sp).length = n + 1 by rw [List.length_append, ← HN.out]; rfl] at O2 ⊢
  have f3 := A2.free 3
  have d3 := A2.cell 3
  have z2 := A2.lt
  simp at d3
  have hl2 : ¬ (300 : Int) < (n : Int) + 1 := by omega
  clear hb1 hg2 A1 O1 HI HF
  go_wp2_with fail
  go_ret
  refine ⟨rfl, ⟨_, ?_, O2.keep ((KeepBut.refl P w2).set 3 _) (Nat.lt_succ_self P)⟩, B2.trans (keepBelow ((KeepBut.refl P w2).set 3 _) (by omega))⟩
  unfold RdC At
  rw [setCell_eq_setRow w2 P 3 _ _ (0, 0) _ A2]
  exact setRow_heap w2 P _ _ _ _ A2
end Go.Proofs.YtggojafapieliabDoor
