/-
  Joined: Oi, Eb, Gf.
-/
import Derived.Test.YtobpidmlgldnmaaGreatDoorOh
import Derived.Test.YtobpidmlgldnmaaGreatDoorYa
import Derived.Test.YtobpidmlgldnmaaGreatDoorKb
import Derived.Test.YtobpidmlgldnmaaGreatDoorCp
import Derived.Test.YtobpidmlgldnmaaGreatDoorCh
import Derived.Laws.BitsLemmas
import Derived.Test.YtobpidmlgldnmaaGreatDoorGh
import Derived.Maps.AppendAt
import Derived.Deep.RegionWith
import Derived.Deep.RegionHeld3
import Derived.Deep.AppendLies

/-
  ops.Parse, whole.
-/
namespace Go.Proofs.YtobpidmlgldnmaaGreatDoor
open Go.RowKit
set_option maxRecDepth 100000

theorem stepS (m : Int) (P B : Nat) (s : ByteArray) (j : Nat) (tO tA : Value) (O : List OC) (A : List VC) (w : World) (hG : Gr m w) (hP : P < B) (hR : RdO w P s j tO tA) (hM : OpsM B w tO tA O A) (hj : j < s.size) (hs : s.size ≤ 20000) (hO : O.length ≤ 2000) (hA : A.length ≤ 8) :
    Calls Tryz.prog 28 #[.pointer (some ⟨P, 0, none⟩)] w (StepSaid P B s w (stepR s j (O.map (·.1)) (A.map (·.1)))) := by
  cases hop : opMay (wordP s j)
  · exact stepVal m P B s j tO tA O A w hG hP hR hM hj hs hA hop
  · exact stepOp P B s j tO tA O A w hP hR hM hj hs hO hA hop
theorem stepR_few {s : ByteArray} {p : Nat} {O : List OpP} {A : List V} (h : (stepR s p O A).1 = 0) (hO : O.length ≤ 2000) (hA : A.length ≤ 8) : (stepR s p O A).2.2.1.length ≤ 2000 ∧ (stepR s p O A).2.2.2.length ≤ 8 := by
  unfold stepR at h ⊢
  by_cases h1 : opMay (wordP s p) = true
  · rw [if_pos h1] at h ⊢
    by_cases h2 : O.length = 2000
    · rw [if_pos h2] at h; exact absurd (show (2 : Int) = 0 from h) (by decide)
    · rw [if_neg h2]; exact ⟨by simp; omega, by simp⟩
  · rw [if_neg h1] at h ⊢
    by_cases h2 : (pV s p).2.1 ≠ 0
    · rw [if_pos h2] at h; exact absurd h h2
    · rw [if_neg h2] at h ⊢
      by_cases h3 : A.length = 8
      · rw [if_pos h3] at h; exact absurd (show (10 : Int) = 0 from h) (by decide)
      · rw [if_neg h3]; exact ⟨hO, by simp; omega⟩
/-- What reading says. -/
def ParseSaid (w : World) (r : List OpP × Int) (e : Ending) (w' : World) : Prop :=
  ∃ t, e = .returned (.tuple #[t, errN r.2]) ∧ Below w.heap.size w w' ∧ Hid (OpsN 10 w' t r.1)
theorem opsN_nil (d : Nat) (w : World) : OpsN d w (.slice none 0 0) [] := ⟨none, 0, rfl, by simp [maxLen], fun i o h => by simp at h⟩
/-- How far the reader in a block has come. -/
def atOf (b : Nat) (w : World) : Nat := match w.cell? ⟨b, 1, none⟩ with | some (.int _ n) => n.toNat | _ => 0
theorem At.atOf {w : World} {P : Nat} {s : ByteArray} {j : Nat} {tO tA : Value} (h : RdO w P s j tO tA) : atOf P w = j := by
  have h1 : w.cell? ⟨P, 1, none⟩ = some (.int .i64 (j : Int)) := At.cell h 1
  unfold Go.Proofs.YtobpidmlgldnmaaGreatDoor.atOf; rw [h1]; simp
/-- What holds at the loop's beginning. -/
def OpsL (s : ByteArray) (w : World) (R : List OpP × Int) (wr : World) : Prop :=
  ∃ (j : Nat) (tO tA : Value) (O : List OC) (A : List VC) (n : Nat), j ≤ s.size ∧ s.size - j < n ∧ O.length ≤ 2000 ∧ A.length ≤ 8 ∧ RdO wr w.heap.size s j tO tA ∧ OpsM (w.heap.size + 1) wr tO tA O A ∧ Below w.heap.size w wr ∧ Hid (opsR s n j (O.map (·.1)) (A.map (·.1)) = R)
set_option maxHeartbeats 4000000 in
theorem parseS (m : Int) (s : ByteArray) (w : World) (hG : Gr m w) (hs : s.size ≤ 20000) : Calls Tryz.prog 20 #[.string s] w (ParseSaid w (opsP s)) := by
  obtain ⟨R, hR⟩ : ∃ R, opsR s (s.size + 1) 0 [] [] = R := ⟨_, rfl⟩
  rw [show opsP s = R by unfold opsP; rw [if_neg (by omega), hR]]
  have HR0 := hid hR
  have hs' : ¬ (20000 : Int) < s.size := by omega
  clear hR
  go_enter Tryz.func20, Tryz.ntmps20
  go_wp2
  go_loopw [] (fun wr => OpsL s w R wr) (fun wr => s.size - (atOf w.heap.size wr))
  case atStart =>
    refine ⟨0, .slice none 0 0, .slice none 0 0, [], [], s.size + 1, by omega, by omega, by simp, by simp, At.new _ _ _ rfl, OpsM.nil _ _ (by simp), below_box _ _, hid HR0.out⟩
  case round =>
    clear HR0
    obtain ⟨j, tO, tA, O, A, n, hj, hn, hO, hA, hRd, hM, hb, HT⟩ := hrel
    obtain ⟨n', rfl⟩ : ∃ n', n = n' + 1 := ⟨n - 1, by omega⟩
    have hat0 : atOf w.heap.size wr = j := hRd.atOf
    have hmore := moreS w.heap.size (w.heap.size + 1) s j tO tA O A wr (by omega) hRd hM hj hs
    have HU := HT.out
    rw [opsR] at HU
    have hql := skipP_le hj
    generalize skipP s j = q at hmore HU hql
    by_cases hq : q = s.size
    · rw [if_pos hq, List.length_map] at HU
      rw [decide_eq_false (by omega)] at hmore
      replace HU := hid HU
      obtain ⟨aA, cA, eA⟩ := own_sliceO hM.ownA
      subst eA
      by_cases hA0 : A.length = 0
      · have HE := hid (show (O.map (·.1), (0 : Int)) = R by rw [← HU.out, if_pos hA0])
        rw [hA0] at hmore
        go_wp2_with (go_at_call 27; go_must (refine hmore.mono ?_); rintro e w1 ⟨rfl, hb1, hR1, hM1⟩; (have d2 := At.cell hR1 2); (have d3 := At.cell hR1 3); (have z1 := At.lt hR1); simp at d2 d3)
        go_ret2
        refine ⟨tO, ?_, hb.trans hb1, ?_⟩
        · rw [← HE.out]; simp only; rw [errN_0]; rfl
        · rw [← HE.out]; exact hid (hM1.list (by omega))
      · have HE := hid (show ([], (5 : Int)) = R by rw [← HU.out, if_neg hA0])
        have hA1 : (0 : Int) < A.length := by omega
        go_wp2_with (go_at_call 27; go_must (refine hmore.mono ?_); rintro e w1 ⟨rfl, hb1, hR1, hM1⟩; (have d2 := At.cell hR1 2); (have d3 := At.cell hR1 3); (have z1 := At.lt hR1); simp at d2 d3)
        go_ret2
        refine ⟨.slice none 0 0, ?_, hb.trans hb1, ?_⟩
        · rw [← HE.out]; rfl
        · rw [← HE.out]; exact hid (opsN_nil _ _)
    · rw [if_neg hq] at HU
      rw [decide_eq_true (by omega)] at hmore
      have hql' : q < s.size := by omega
      have hfar := stepR_far (s := s) (p := q) (O := O.map (·.1)) (A := A.map (·.1)) (by omega)
      have hfew := stepR_few (s := s) (p := q) (O := O.map (·.1)) (A := A.map (·.1))
      rw [List.length_map, List.length_map] at hfew
      have hstep := fun (w1 : World) (h1 : Gr m w1) (h2 : RdO w1 w.heap.size s q tO tA) (h3 : OpsM (w.heap.size + 1) w1 tO tA O A) => stepS m w.heap.size (w.heap.size + 1) s q tO tA O A w1 h1 (by omega) h2 h3 hql' hs hO hA
      generalize stepR s q (O.map (·.1)) (A.map (·.1)) = r at hstep HU hfar hfew
      obtain ⟨e1, z, O2, A2⟩ := r
      unfold StepSaid at hstep
      simp only at hstep HU hfar hfew
      replace HU := hid HU
      replace hfar := hid hfar
      replace hfew := hid hfew
      have HEC := hid (errN_case e1)
      have hG1 := hid (fun (w1 : World) (h1 : Below w.heap.size wr w1) => hG.below (hb.trans h1))
      clear hM
      rcases HEC.out with ⟨he, hev⟩ | ⟨he, hev⟩
      · rw [hev] at hstep
        have HE := hid (show opsR s n' z O2 A2 = R by rw [← HU.out, if_neg (by simp [he])])
        have hf := hfar.out he
        have hw := hfew.out he hO hA
        clear HU
        go_wp2_with (first | (go_at_call 27; go_must (refine hmore.mono ?_); rintro e w1 ⟨rfl, hb1, hR1, hM1⟩; (have z1 := At.lt hR1)) | (go_at_call 28; go_must (refine (hstep _ (hG1.out _ hb1) hR1 hM1).mono ?_); rintro e w2 ⟨rfl, hb2, HQ⟩))
        obtain ⟨tO3, tA3, O3, A3, hR3, hM3, rfl, rfl⟩ := HQ.out he
        rw [List.length_map, List.length_map] at hw
        refine ⟨⟨z, tO3, tA3, O3, A3, n', hf.2, by omega, hw.1, hw.2, hR3, hM3, (hb.trans hb1).trans hb2, HE⟩, ?_⟩
        rw [hat0, hR3.atOf]; omega
      · rw [hev] at hstep
        have HE := hid (show ([], e1) = R by rw [← HU.out, if_pos he])
        clear HU
        go_wp2_with (first | (go_at_call 27; go_must (refine hmore.mono ?_); rintro e w1 ⟨rfl, hb1, hR1, hM1⟩; (have z1 := At.lt hR1)) | (go_at_call 28; go_must (refine (hstep _ (hG1.out _ hb1) hR1 hM1).mono ?_); rintro e w2 ⟨rfl, hb2, HQ⟩))
        go_ret2
        refine ⟨.slice none 0 0, ?_, (hb.trans hb1).trans hb2, ?_⟩
        · rw [← HE.out]; simp only; rw [hev]; rfl
        · rw [← HE.out]; exact hid (opsN_nil _ _)
end Go.Proofs.YtobpidmlgldnmaaGreatDoor

/-
  Reading a program: codes of two bytes; units of any sign.
-/
namespace Go.Proofs.YtobpidmlgldnmaaGreatDoor
open Go.RowKit
set_option maxRecDepth 100000
attribute [local go_sem ↓] Go.wp_at_zero Go.wp_at_succ

theorem wraps_i64 (n : Int) (h₀ : 0 ≤ n) (h₁ : n < 2 ^ 31) : IntKind.i64.wrap n = n := by rw [IntKind.wrap_i64]; omega
theorem or64 {x y : Nat} (hx : x < 65536) (hy : y < 256) : bits .or .i64 ((x : Int) * 256) (y : Int) = (x : Int) * 256 + y :=
  bits_join .i64 31 (by decide) wraps_i64 8 _ _ (by omega) (by omega) (by omega) (by omega) (by omega) (by omega)
end Go.Proofs.YtobpidmlgldnmaaGreatDoor

/-
  The signs of a string in a font: the program's answer.
-/
namespace Go.Proofs.YtobpidmlgldnmaaGreatDoor
open Go.RowKit Go.WideMaps Go.Maps
set_option maxRecDepth 100000
attribute [local go_sem ↓] Go.wp_at_zero Go.wp_at_succ

/-- The codes of a string. -/
def cdL : Bool → List UInt8 → List Int
  | false, l => l.map fun c => (c.toNat : Int)
  | true, a :: b :: r => ((a.toNat : Int) * 256 + b.toNat) :: cdL true r
  | true, _ => []
/-- A code's sign: its cells are those of a span. -/
def sgP (F : Ft) (c : Int) : Sp := ⟨c, wdP F c, ⟨(txP F c).toArray⟩⟩
def sgL (F : Ft) (l : List UInt8) : List Sp := (cdL F.wide l).map (sgP F)
def clG (l : List Sp) : List Value := l.flatMap fun x => [.int .i64 x.f, .int .i64 x.t, .string x.s]
/-- A row of signs that was made. -/
def OwnG (w : World) (B : Nat) (v : Value) (l : List Sp) : Prop := w.ownsRow B 142 3 v l.length (clG l)
theorem OwnG.later {w w' : World} {B : Nat} {v : Value} {l : List Sp} (h : OwnG w B v l) (hb : Below w.heap.size w w') : OwnG w' B v l :=
  World.ownsRow.kept h (row := none) ⟨hb.os, hb.tape, hb.output, hb.size, fun k hk _ => hb.block k hk⟩ (by cases v.ownBlock <;> simp)
theorem infoSg : (Tryz.prog.info? 142).map (fun i => (i.zero, i.size, i.bytes)) = some (some (.agg #[.int .i64 0, .int .i64 0, .string ByteArray.empty]), 3, 32) := by kernel_rfl
theorem stepAppG {ops : Array Oper} {o : Oper} {a : Act} {W : World} {Q : Exit → Act → World → Prop} {K : Act → World → Prop} {E : Prop} (hgd : o.guard = none) (s x : Operand) (ho : o.op = .call { callee := .builtin .append, args := #[s, x], argTypes := #[138, 138] })
    (B : Nat) (v : Value) (l : List Sp) (hs : a.eval s = v) (hown : OwnG W B v l) (g : Nat) (y : Sp) (c : Nat) (hx : a.eval x = .slice (some ⟨g, 0, none⟩) 1 c) (hg : At W g 142 #[.int .i64 y.f, .int .i64 y.t, .string y.s]) (hlim : l.length ≤ 1000000) (hB : B ≤ W.heap.size)
    (h : ∀ v' w', OwnG w' B v' (l ++ [y]) → W.grownBy w' v.ownBlock → K (a.put o.dst v') w') :
    if Region.wanted o (yielded ops a.tmps) = true then Oper.wp Tryz.prog o a W K Q else E := by
  have hw : Region.wanted o (yielded ops a.tmps) = true := by simp [Region.wanted, hgd]
  rw [if_pos hw]
  obtain ⟨iF, hiF, hf0, hf1, hf2⟩ := info_parts infoSg
  obtain ⟨v', w', hr, h2, h3, _, _⟩ := run_append_own_at (P := Tryz.prog) W B 138 o.type 142 iF _ 3 32 Tryz.underlying138 hiF hf0 hf1 hf2 rfl (by decide) v l.length (clG l) hown ⟨g, 0, none⟩ 1 c [.int .i64 y.f, .int .i64 y.t, .string y.s] rfl (World.news_of_block hg) (by simp [Value.oneCell']) (by unfold maxLen; omega) (by omega) hB
  unfold Oper.wp execOp
  simp only [ho, resolve, invoke, builtin, Sem.run_bind, Sem.run_pure, Result.andThen_ok, List.map_toArray, List.map_cons, List.map_nil, hs, hx, hr]
  refine h v' w' ?_ h3
  unfold OwnG
  rw [show clG (l ++ [y]) = clG l ++ [.int .i64 y.f, .int .i64 y.t, .string y.s] by unfold clG; rw [List.flatMap_append]; rfl, List.length_append]
  exact h2
theorem OwnG.base {w : World} {B B' : Nat} {v : Value} {l : List Sp} (h : OwnG w B v l) (hb : B' ≤ B) : OwnG w B' v l := by
  obtain ⟨h1, h2 | ⟨g, cap, cur, h2, h3, h4⟩⟩ := h
  · exact ⟨h1, .inl h2⟩
  · exact ⟨h1, .inr ⟨g, cap, cur, h2, Nat.le_trans hb h3, h4⟩⟩
/-- The cells of a font that was handed in. -/
def FtC (w : World) (b : Nat) (wide : Bool) (mw mn : Value) (miss : Int) (sl : Value) : Prop := w.cell? ⟨b, 0, none⟩ = some (.bool wide) ∧ w.cell? ⟨b, 1, none⟩ = some mw ∧ w.cell? ⟨b, 2, none⟩ = some (.int .i64 miss) ∧ w.cell? ⟨b, 3, none⟩ = some mn ∧ w.cell? ⟨b, 4, none⟩ = some sl
theorem ftC {w : World} {b : Nat} {wide : Bool} {mw mn : Value} {miss : Int} {sl : Value} (h : At w b 56 #[.bool wide, mw, .int .i64 miss, mn, sl]) : FtC w b wide mw mn miss sl := ⟨h.cell 0, h.cell 1, h.cell 2, h.cell 3, h.cell 4⟩
theorem u8_le (c : UInt8) : (c.toNat : Int) ≤ 65535 := by have := c.toNat_lt; omega
theorem u8_nn (c : UInt8) : (0 : Int) ≤ (c.toNat : Int) := Int.natCast_nonneg _
theorem u8_wrap (c : UInt8) : wrap64 (c.toNat : Int) = (c.toNat : Int) := by have := c.toNat_lt; unfold wrap64; omega
theorem headF {c : UInt8} {r : List UInt8} {D : ByteArray} (h : D = ⟨(c :: r).toArray⟩) : (D.size : Int) = (r.length : Int) + 1 ∧ (1 : Int) ≤ (D.size : Int) ∧ (∃ h0 : 0 < D.size, D[0] = c) ∧ D.extract 1 D.size = ⟨r.toArray⟩ ∧ D.toList.isEmpty = false := by
  have hDs : D.size = r.length + 1 := by rw [h]; show (c :: r).toArray.size = _; simp
  refine ⟨by omega, by omega, ⟨by omega, by subst h; rfl⟩, ?_, ?_⟩
  · subst h
    apply Go.WideShapes.bytes_inj
    simp
    rw [hDs, Nat.add_sub_cancel, List.take_of_length_le (Nat.le_refl _)]
  · cases hh : D.toList with
    | nil => have := (toListNil D).1 hh; omega
    | cons a l => rfl
theorem restLen {L dn r : List UInt8} {n : Nat} (h : L = dn ++ r) (hn : L.length ≤ n) : dn.length ≤ n ∧ r.length ≤ n := by
  have := congrArg List.length h; rw [List.length_append] at this; omega
theorem atG {W W' : World} {B b : Nat} {v : Value} {l : List Sp} {t : TypeId} {cs : Array Value} (hg : W.grownBy W' v.ownBlock) (ho : OwnG W B v l) (hA : At W b t cs) (hb : b < B) : At W' b t cs :=
  (hg.block b hA.lt (fun e => by have := (World.ownsRow.lt ho b e.symm).1; omega)).trans hA
theorem bwG {w0 W W' : World} {v : Value} {l : List Sp} (hg : W.grownBy W' v.ownBlock) (ho : OwnG W w0.heap.size v l) (hB : Below w0.heap.size w0 W) : Below w0.heap.size w0 W' :=
  hB.grown hg hB.size (fun k hk => (World.ownsRow.lt ho k hk).1)
theorem shrink {r : List UInt8} {D : ByteArray} {k : Nat} (h : D.extract (k + 1) D.size = ⟨r.toArray⟩) (h2 : (D.size : Int) = (r.length : Int) + ((k + 1 : Nat) : Int)) : (D.extract (k + 1) D.size).size < D.size := by
  rw [h]
  show r.toArray.size < D.size
  simp; omega
theorem head2F {a b : UInt8} {r : List UInt8} {D : ByteArray} (h : D = ⟨(a :: b :: r).toArray⟩) : (D.size : Int) = (r.length : Int) + 2 ∧ (2 : Int) ≤ (D.size : Int) ∧ (∃ h0 : 0 < D.size, D[0] = a) ∧ (∃ h1 : 1 < D.size, D[1] = b) ∧ D.extract 2 D.size = ⟨r.toArray⟩ ∧ D.toList.isEmpty = false := by
  have hDs : D.size = r.length + 2 := by rw [h]; show (a :: b :: r).toArray.size = _; simp
  refine ⟨by omega, by omega, ⟨by omega, by subst h; rfl⟩, ⟨by omega, by subst h; rfl⟩, ?_, ?_⟩
  · subst h
    apply Go.WideShapes.bytes_inj
    simp
    rw [hDs, Nat.add_sub_cancel, List.take_of_length_le (Nat.le_refl _)]
  · cases hh : D.toList with
    | nil => have := (toListNil D).1 hh; omega
    | cons a l => rfl
theorem u16_le (a b : UInt8) : (a.toNat : Int) * 256 + (b.toNat : Int) ≤ 65535 := by have := a.toNat_lt; have := b.toNat_lt; omega
theorem u16_nn (a b : UInt8) : (0 : Int) ≤ (a.toNat : Int) * 256 + (b.toNat : Int) := by omega
theorem u16_or (a b : UInt8) : bits .or .i64 ((a.toNat : Int) * 256) (b.toNat : Int) = (a.toNat : Int) * 256 + (b.toNat : Int) := or64 (by have := a.toNat_lt; omega) b.toNat_lt
theorem u16_sh (a : UInt8) : wrap64 ((a.toNat : Int) * 256) = (a.toNat : Int) * 256 := by have := a.toNat_lt; unfold wrap64; omega
theorem cdL_two : ∀ (n : Nat) (dn r : List UInt8), dn.length = 2 * n → cdL true (dn ++ r) = cdL true dn ++ cdL true r
  | 0, dn, r, h => by obtain rfl : dn = [] := List.eq_nil_of_length_eq_zero (by omega); rfl
  | n + 1, dn, r, h => by
    match dn, h with
    | a :: b :: t, h =>
      have q := cdL_two n t r (by simp at h; omega)
      show ((a.toNat : Int) * 256 + b.toNat) :: cdL true (t ++ r) = ((a.toNat : Int) * 256 + b.toNat) :: (cdL true t ++ cdL true r)
      rw [q]
    | [a], h => exfalso; simp at h; omega
    | [], h => exfalso; simp at h
theorem cdL_len : ∀ (n : Nat) (dn : List UInt8), dn.length ≤ n → (cdL true dn).length ≤ n
  | 0, dn, h => by obtain rfl : dn = [] := List.eq_nil_of_length_eq_zero (by omega); exact Nat.le_refl _
  | n + 1, dn, h => by
    match dn, h with
    | a :: b :: t, h =>
      have q := cdL_len n t (by simp at h; omega)
      show (_ :: cdL true t).length ≤ _
      rw [List.length_cons]; omega
    | [a], h => exact Nat.zero_le _
    | [], h => exact Nat.zero_le _
set_option maxHeartbeats 1000000 in
theorem signs_narrow (F : Ft) (mw mn : Value) (al : Option Addr) (cap : Nat) (s : ByteArray) (w : World) (hw : F.wide = false) (hs : s.size ≤ 1000) (hF : FtAt w F mw mn al) (hT : Tb w) (hf : spFault F.l F.wide = 0) :
    Calls Tryz.prog 87 #[ftV F mw mn al cap, .string s] w fun e w' => ∃ v, e = .returned (.tuple #[v, .nilIface]) ∧ OwnG w' w.heap.size v (sgL F s.data.toList) ∧ Below w.heap.size w w' := by
  have HW := hid (fun W (hB : Below w.heap.size w W) c (h0 : 0 ≤ c) (h1 : c ≤ 65535) => width_says F mw mn al cap c W (hF.later hB) h0 h1)
  have HX := hid (fun W (hB : Below w.heap.size w W) c (h0 : 0 ≤ c) (h1 : c ≤ 65535) => ftext_says F mw mn al cap c W (hF.later hB) (hT.below hB) hf h0 h1)
  have HD := hid (show ∀ dn (c : UInt8), sgL F (dn ++ [c]) = sgL F dn ++ [sgP F (c.toNat : Int)] from fun dn c => by unfold sgL; rw [hw]; simp [cdL])
  have H0 := hid (show sgL F [] = [] by unfold sgL; rw [hw]; rfl)
  have HLN := hid (show ∀ dn, (sgL F dn).length = dn.length from fun dn => by unfold sgL; rw [hw]; simp [cdL])
  have HSZ := hid hs
  obtain ⟨iF, hiF, hf0, hf1, hf2⟩ := info_parts infoSg
  obtain ⟨L, hL⟩ : ∃ L, L = s.data.toList := ⟨_, rfl⟩
  have hsE : s = ⟨L.toArray⟩ := by apply Go.WideShapes.bytes_inj; rw [hL]
  rw [← hL]
  have hLl : L.length ≤ 1000 := by rw [hL]; simpa using hs
  clear hF hT hf hs hL
  subst hsE
  generalize sgL F = SG at *
  unfold ftV at *
  rw [hw] at *
  have hm : (((⟨L.toArray⟩ : ByteArray).size : Int) % 1) = 0 := by omega
  clear hw
  go_enter Tryz.func87, Tryz.ntmps87
  go_wp2_with fail
  have hA0 : At (w.alloc (.cells #[.bool false, mw, .int .i64 F.miss, mn, .slice al F.l.length cap] 56)) w.heap.size 56 #[.bool false, mw, .int .i64 F.miss, mn, .slice al F.l.length cap] := At.new _ _ _ rfl
  have hB0 : Below w.heap.size w (w.alloc (.cells #[.bool false, mw, .int .i64 F.miss, mn, .slice al F.l.length cap] 56)) := by go_grown
  generalize w.alloc (.cells #[.bool false, mw, .int .i64 F.miss, mn, .slice al F.l.length cap] 56) = w0 at hA0 hB0 ⊢
  have hz0 := hA0.lt
  have HA0 := hid hA0
  have HB0 := hid hB0
  clear hA0 hB0
  go_loopw [1, 7] (fun sv v wr => ∃ dn rest, Hid (L = dn ++ rest) ∧ sv = .string ⟨rest.toArray⟩ ∧ OwnG wr w0.heap.size v (SG dn) ∧ Below w0.heap.size w0 wr) (fun sv _ _ => match sv with | .string x => x.size | _ => 0)
  case atStart => exact ⟨[], L, hid rfl, rfl, by rw [H0.out]; exact World.ownsRow_nil _ _ _ _, Below.refl _ _⟩
  case round =>
    obtain ⟨dn, rest, HR, rfl, hO, hB⟩ := hrel
    have hBs := hB.size
    cases rest with
    | nil =>
      go_wp2_with fail
      go_ret2
      have e : dn = L := by rw [HR.out, List.append_nil]
      rw [e] at hO
      exact ⟨_, rfl, hO.base (Nat.le_of_lt hz0), HB0.out.trans (hB.mono (Nat.le_of_lt hz0))⟩
    | cons c r =>
      obtain ⟨D, hDe⟩ : ∃ D : ByteArray, D = ⟨(c :: r).toArray⟩ := ⟨_, rfl⟩
      rw [← hDe]
      obtain ⟨hDs', hD1, ⟨h0, d0⟩, hDx, hie⟩ := headF hDe
      have A0 := HA0.out.later hB
      have k0 := A0.cell 0
      have k1 := A0.cell 1
      have k2 := A0.cell 2
      have k3 := A0.cell 3
      have k4 := A0.cell 4
      have z0 := A0.lt
      simp at k0 k1 k2 k3 k4
      have HDX := hid hDx
      have hwr := u8_wrap c
      have HBW := hid (HB0.out.trans (hB.mono (Nat.le_of_lt hz0)))
      have HWc := hid (fun W (hW : Below w.heap.size w W) => HW.out W hW (c.toNat : Int) (u8_nn c) (u8_le c))
      have HXc := hid (fun W (hW : Below w.heap.size w W) => HX.out W hW (c.toNat : Int) (u8_nn c) (u8_le c))
      have HS0 := hid (ftC A0)
      have HA1 := hid A0
      have HBk := hid hB
      have HNL := hid (show (SG dn).length ≤ 1000000 by rw [HLN.out]; exact Nat.le_trans (restLen HR.out hLl).1 (by decide))
      clear hDe hDx A0 hB
      unfold FtC at HS0
      go_wp2_with fail
      go_region_held3 (fun (w' : World) => w'.cell? ⟨w.heap.size, 0, none⟩ = some (.bool false) ∧ w'.cell? ⟨w.heap.size, 1, none⟩ = some mw ∧ w'.cell? ⟨w.heap.size, 2, none⟩ = some (.int .i64 F.miss) ∧ w'.cell? ⟨w.heap.size, 3, none⟩ = some mn ∧ w'.cell? ⟨w.heap.size, 4, none⟩ = some (.slice al F.l.length cap))
        (first | exact HS3.out | exact HS2.out | exact HS1.out | exact HS0.out | go_keep)
        (first
          | (go_at_call 102; refine (HWc.out _ (by first | exact HBW.out.drew | exact HBW.out)).mono ?_; rintro e w1 ⟨rfl, hb1⟩; (have HB1 := hid (below_undrew hb1)); (have HS1 := hid (ftC (HA1.out.later HB1.out))); unfold FtC at HS1)
          | (go_at_call 103; refine (HXc.out _ (by first | exact chn' HBW.out HB1.out | exact (chn' HBW.out HB1.out).drew)).mono ?_; rintro e w2 ⟨rfl, hb2⟩; (have HB2 := hid (chn' HB1.out hb2)); (have HS2 := hid (ftC (HA1.out.later HB2.out))); unfold FtC at HS2)
          | (refine stepAppG (by rfl) (.tmp 33) (.tmp 42) (by rfl) w0.heap.size _ (SG dn) (by rfl) ((hO.later HB2.out).later (by go_grown)) _ ⟨(c.toNat : Int), wdP F (c.toNat : Int), ⟨(txP F (c.toNat : Int)).toArray⟩⟩ 1 (by rfl) (At.new _ _ _ rfl) HNL.out (by first | exact Nat.le_trans HBk.out.size HB2.out.size | exact Nat.le_trans (Nat.le_trans HBk.out.size HB2.out.size) (by simp)) ?_; intro v3 w3 ho3 hg3; (have HS3 := hid (ftC (atG hg3 ((hO.later HB2.out).later (by go_grown)) ((HA1.out.later HB2.out).alloc _) hz0))); unfold FtC at HS3; (have HB3 := hid (bwG hg3 ((hO.later HB2.out).later (by go_grown)) ((HBk.out.trans (HB2.out.mono HBk.out.size)).alloc (Nat.le_trans HBk.out.size HB2.out.size) _))); clear hg3))
      all_goals
        go_wp2_with fail
        go_roundw
        case rel => exact ⟨dn ++ [c], r, hid (by rw [HR.out]; simp), by rw [← HDX.out], by rw [HD.out]; exact ho3, HB3.out⟩
        case measure => exact shrink HDX.out hDs'
set_option maxHeartbeats 1000000 in
theorem signs_wide (F : Ft) (mw mn : Value) (al : Option Addr) (cap : Nat) (s : ByteArray) (w : World) (hw : F.wide = true) (hs : s.size ≤ 1000) (hev : ∃ m, s.size = 2 * m) (hF : FtAt w F mw mn al) (hT : Tb w) (hf : spFault F.l F.wide = 0) :
    Calls Tryz.prog 87 #[ftV F mw mn al cap, .string s] w fun e w' => ∃ v, e = .returned (.tuple #[v, .nilIface]) ∧ OwnG w' w.heap.size v (sgL F s.data.toList) ∧ Below w.heap.size w w' := by
  have HW := hid (fun W (hB : Below w.heap.size w W) c (h0 : 0 ≤ c) (h1 : c ≤ 65535) => width_says F mw mn al cap c W (hF.later hB) h0 h1)
  have HX := hid (fun W (hB : Below w.heap.size w W) c (h0 : 0 ≤ c) (h1 : c ≤ 65535) => ftext_says F mw mn al cap c W (hF.later hB) (hT.below hB) hf h0 h1)
  have HD := hid (show ∀ dn (a b : UInt8) (n : Nat), dn.length = 2 * n → sgL F (dn ++ [a, b]) = sgL F dn ++ [sgP F ((a.toNat : Int) * 256 + b.toNat)] from fun dn a b n h => by unfold sgL; rw [hw, cdL_two n dn [a, b] h]; simp [cdL])
  have H0 := hid (show sgL F [] = [] by unfold sgL; rw [hw]; rfl)
  have HLN := hid (show ∀ dn, dn.length ≤ 1000 → (sgL F dn).length ≤ 1000 from fun dn h => by unfold sgL; rw [hw, List.length_map]; exact cdL_len 1000 dn h)
  have HSZ := hid hs
  obtain ⟨iF, hiF, hf0, hf1, hf2⟩ := info_parts infoSg
  obtain ⟨L, hL⟩ : ∃ L, L = s.data.toList := ⟨_, rfl⟩
  have hsE : s = ⟨L.toArray⟩ := by apply Go.WideShapes.bytes_inj; rw [hL]
  rw [← hL]
  have hLl : L.length ≤ 1000 := by rw [hL]; simpa using hs
  obtain ⟨m, hm2⟩ := hev
  have hLm : L.length = 2 * m := by rw [hL]; simpa using hm2
  have hmod : ((L.length : Int) % 2) = 0 := by omega
  have HLM := hid hLm
  clear hm2 hLm
  clear hF hT hf hs hL
  subst hsE
  generalize sgL F = SG at *
  unfold ftV at *
  rw [hw] at *
  have hm : (((⟨L.toArray⟩ : ByteArray).size : Int) % 2) = 0 := by
    show ((L.toArray.size : Int) % 2) = 0
    simpa using hmod
  clear hw
  go_enter Tryz.func87, Tryz.ntmps87
  go_wp2_with fail
  have hA0 : At (w.alloc (.cells #[.bool true, mw, .int .i64 F.miss, mn, .slice al F.l.length cap] 56)) w.heap.size 56 #[.bool true, mw, .int .i64 F.miss, mn, .slice al F.l.length cap] := At.new _ _ _ rfl
  have hB0 : Below w.heap.size w (w.alloc (.cells #[.bool true, mw, .int .i64 F.miss, mn, .slice al F.l.length cap] 56)) := by go_grown
  generalize w.alloc (.cells #[.bool true, mw, .int .i64 F.miss, mn, .slice al F.l.length cap] 56) = w0 at hA0 hB0 ⊢
  have hz0 := hA0.lt
  have HA0 := hid hA0
  have HB0 := hid hB0
  clear hA0 hB0
  rw [hmod]
  go_loopw [1, 7] (fun sv v wr => ∃ dn rest, Hid (L = dn ++ rest ∧ ∃ n, dn.length = 2 * n) ∧ sv = .string ⟨rest.toArray⟩ ∧ OwnG wr w0.heap.size v (SG dn) ∧ Below w0.heap.size w0 wr) (fun sv _ _ => match sv with | .string x => x.size | _ => 0)
  case atStart => exact ⟨[], L, hid ⟨rfl, 0, rfl⟩, rfl, by rw [H0.out]; exact World.ownsRow_nil _ _ _ _, Below.refl _ _⟩
  case round =>
    obtain ⟨dn, rest, HR, rfl, hO, hB⟩ := hrel
    have hBs := hB.size
    cases rest with
    | nil =>
      go_wp2_with fail
      go_ret2
      have e : dn = L := by rw [HR.out.1, List.append_nil]
      rw [e] at hO
      exact ⟨_, rfl, hO.base (Nat.le_of_lt hz0), HB0.out.trans (hB.mono (Nat.le_of_lt hz0))⟩
    | cons a r0 =>
      obtain ⟨b, r, rfl⟩ : ∃ b r, r0 = b :: r := by
        cases r0 with
        | nil => exfalso; obtain ⟨q, n, hn⟩ := HR.out; have := congrArg List.length q; rw [List.length_append, hn, HLM.out] at this; simp at this; omega
        | cons b r => exact ⟨b, r, rfl⟩
      obtain ⟨D, hDe⟩ : ∃ D : ByteArray, D = ⟨(a :: b :: r).toArray⟩ := ⟨_, rfl⟩
      rw [← hDe]
      obtain ⟨hDs', hD1, ⟨h0, d0⟩, ⟨h1, d1⟩, hDx, hie⟩ := head2F hDe
      have h1' : (1 : Int) < (D.size : Int) := by exact Int.ofNat_lt.2 h1
      have A0 := HA0.out.later hB
      have k0 := A0.cell 0
      have k1 := A0.cell 1
      have k2 := A0.cell 2
      have k3 := A0.cell 3
      have k4 := A0.cell 4
      have z0 := A0.lt
      simp at k0 k1 k2 k3 k4
      have HDX := hid hDx
      have hwr := u8_wrap a
      have hwr1 := u8_wrap b
      have hor := u16_or a b
      have hsh := u16_sh a
      have HBW := hid (HB0.out.trans (hB.mono (Nat.le_of_lt hz0)))
      have HWc := hid (fun W (hW : Below w.heap.size w W) => HW.out W hW ((a.toNat : Int) * 256 + b.toNat) (u16_nn a b) (u16_le a b))
      have HXc := hid (fun W (hW : Below w.heap.size w W) => HX.out W hW ((a.toNat : Int) * 256 + b.toNat) (u16_nn a b) (u16_le a b))
      have HS0 := hid (ftC A0)
      have HA1 := hid A0
      have HBk := hid hB
      have HNL := hid (show (SG dn).length ≤ 1000000 from Nat.le_trans (HLN.out dn (restLen HR.out.1 hLl).1) (by decide))
      clear hDe hDx A0 hB
      unfold FtC at HS0
      go_wp2_with fail
      go_region_held3 (fun (w' : World) => w'.cell? ⟨w.heap.size, 0, none⟩ = some (.bool true) ∧ w'.cell? ⟨w.heap.size, 1, none⟩ = some mw ∧ w'.cell? ⟨w.heap.size, 2, none⟩ = some (.int .i64 F.miss) ∧ w'.cell? ⟨w.heap.size, 3, none⟩ = some mn ∧ w'.cell? ⟨w.heap.size, 4, none⟩ = some (.slice al F.l.length cap))
        (first | exact HS3.out | exact HS2.out | exact HS1.out | exact HS0.out | go_keep)
        (first
          | (go_at_call 102; refine (HWc.out _ (by first | exact HBW.out.drew | exact HBW.out)).mono ?_; rintro e w1 ⟨rfl, hb1⟩; (have HB1 := hid (below_undrew hb1)); (have HS1 := hid (ftC (HA1.out.later HB1.out))); unfold FtC at HS1)
          | (go_at_call 103; refine (HXc.out _ (by first | exact chn' HBW.out HB1.out | exact (chn' HBW.out HB1.out).drew)).mono ?_; rintro e w2 ⟨rfl, hb2⟩; (have HB2 := hid (chn' HB1.out hb2)); (have HS2 := hid (ftC (HA1.out.later HB2.out))); unfold FtC at HS2)
          | (refine stepAppG (by rfl) (.tmp 33) (.tmp 42) (by rfl) w0.heap.size _ (SG dn) (by rfl) ((hO.later HB2.out).later (by go_grown)) _ ⟨((a.toNat : Int) * 256 + b.toNat), wdP F ((a.toNat : Int) * 256 + b.toNat), ⟨(txP F ((a.toNat : Int) * 256 + b.toNat)).toArray⟩⟩ 1 (by rfl) (At.new _ _ _ rfl) HNL.out (by first | exact Nat.le_trans HBk.out.size HB2.out.size | exact Nat.le_trans (Nat.le_trans HBk.out.size HB2.out.size) (by simp)) ?_; intro v3 w3 ho3 hg3; (have HS3 := hid (ftC (atG hg3 ((hO.later HB2.out).later (by go_grown)) ((HA1.out.later HB2.out).alloc _) hz0))); unfold FtC at HS3; (have HB3 := hid (bwG hg3 ((hO.later HB2.out).later (by go_grown)) ((HBk.out.trans (HB2.out.mono HBk.out.size)).alloc (Nat.le_trans HBk.out.size HB2.out.size) _))); clear hg3))
      all_goals
        go_wp2_with fail
        go_roundw
        case rel => obtain ⟨n, hn⟩ := HR.out.2; exact ⟨dn ++ [a, b], r, hid ⟨by rw [HR.out.1]; simp, n + 1, by rw [List.length_append, hn]; rfl⟩, by rw [← HDX.out], by rw [HD.out dn a b n hn]; exact ho3, HB3.out⟩
        case measure => exact shrink HDX.out hDs'
set_option maxHeartbeats 1000000 in
theorem signs_odd (F : Ft) (mw mn : Value) (al : Option Addr) (cap : Nat) (s : ByteArray) (w : World) (hw : F.wide = true) (hs : s.size ≤ 1000) (hev : ∃ m, s.size = 2 * m + 1) :
    Calls Tryz.prog 87 #[ftV F mw mn al cap, .string s] w fun e w' => e = .returned (.tuple #[.slice none 0 0, errV 4]) ∧ Below w.heap.size w w' := by
  obtain ⟨m, hm⟩ := hev
  have hmod : ((s.size : Int) % 2) = 1 := by omega
  unfold ftV
  rw [hw]
  clear hw hm
  go_enter Tryz.func87, Tryz.ntmps87
  go_wp2_with fail
  go_ret2
  exact ⟨rfl, by go_grown⟩
end Go.Proofs.YtobpidmlgldnmaaGreatDoor
