/-
  Joined: Yy, Rz, Oc.
-/
import Derived.Test.YtefbfgcbbpmhlabGreatDoorYx
import Derived.Test.YtefbfgcbbpmhlabGreatDoorVl
import Derived.Test.YtefbfgcbbpmhlabGreatDoorRd

/-
  parse.Value, whole.
-/
namespace Go.Proofs.YtefbfgcbbpmhlabGreatDoor
open Go.RowKit
set_option maxRecDepth 100000

/-- What reading from a place on makes: the value, an error, where it ends. -/
noncomputable def pV (s : ByteArray) (a : Int) : Rd :=
  if 60000 < s.size ∨ a < 0 ∨ (s.size : Int) < a then (V0 0 0 eB, 1, 0)
  else if (rdV s 8 a.toNat).2.1 ≠ 0 then (V0 0 0 eB, (rdV s 8 a.toNat).2.1, 0)
  else if faultV (rdV s 8 a.toNat).1 ≠ 0 then (V0 0 0 eB, faultV (rdV s 8 a.toNat).1, 0)
  else rdV s 8 a.toNat
/-- What reading leans on. -/
structure Gr (m : Int) (w : World) : Prop where
  rdy : Rdy m w
  syn : IfAt w 1
  rng : IfAt w 2
theorem Gr.below {m : Int} {w w' : World} (h : Gr m w) (hb : Below w.heap.size w w') : Gr m w' := ⟨h.rdy.below hb, h.syn.later hb, h.rng.later hb⟩
theorem IfAt.lt {w : World} {b : Nat} (h : IfAt w b) : b < w.heap.size := by
  obtain ⟨ev, h1, _⟩ := h
  exact World.block_lt_of_cell? w ⟨b, 0, none⟩ h1
theorem var_lt {p : Program} {W : World} {g : Nat} {n : String} {cs : Array Value} (hg : p.globalNamed n = some g) (h : W.var? p n = some cs) : g < W.heap.size := by
  unfold World.var? at h
  rw [hg] at h
  simp only [Option.bind_some] at h
  cases hh : W.heap[g]? with
  | none => rw [hh] at h; cases h
  | some o => exact (Array.getElem?_eq_some_iff.1 hh).1
theorem Gr.env {m : Int} {w : World} (h : Gr m w) {P : Nat} (hP : w.heap.size ≤ P) : Env m P w :=
  ⟨h.rdy, h.syn, h.rng, Nat.lt_of_lt_of_le (var_lt gPow h.rdy.1) hP, Nat.lt_of_lt_of_le (World.block_lt_of_cell? w ⟨_, 0, none⟩ h.rdy.2) hP, Nat.lt_of_lt_of_le h.syn.lt hP, Nat.lt_of_lt_of_le h.rng.lt hP⟩
/-- What a call that reads a value from a place on says. -/
def SaidV (w : World) (r : Rd) (e : Ending) (w' : World) : Prop :=
  ∃ (k n : Int) (t : ByteArray) (a1 a2 : Option Addr) (l1 c1 l2 c2 : Nat), e = .returned (.tuple #[.agg #[.int .i64 k, .int .i64 n, .string t, .slice a1 l1 c1, .slice a2 l2 c2], .int .i64 (r.2.2 : Nat), errN r.2.1]) ∧ Below w.heap.size w w' ∧
    Hid (RepN 9 w' r.1 [.int .i64 k, .int .i64 n, .string t, .slice a1 l1 c1, .slice a2 l2 c2])
theorem rep_0 (d : Nat) (w : World) : RepN (d + 1) w (V0 0 0 eB) [.int .i64 0, .int .i64 0, .string ⟨#[]⟩, .slice none 0 0, .slice none 0 0] := rep_vc d w 0 0 eB (by decide)
/-- The answer's block, and a reader's behind it. -/
structure Nest (w a : World) (s : ByteArray) (j : Nat) : Prop where
  below : Below w.heap.size w a
  box : At a w.heap.size 26 (vc 0 0 ⟨#[]⟩)
  at_ : RdAt a (w.heap.size + 1) s j
theorem Nest.new (w : World) (s : ByteArray) (k : Nat) : Nest w ((w.alloc (.cells (vc 0 0 ⟨#[]⟩) 26)).alloc (.cells #[.string s, .int .i64 k] 202)) s k := by
  refine ⟨Below.trans (below_box w _) ((below_box _ _).mono (by simp)), (At.new w _ _ rfl).alloc _, ?_⟩
  have := At.new (w.alloc (.cells (vc 0 0 ⟨#[]⟩) 26)) #[.string s, .int .i64 k] 202 rfl
  rwa [show (w.alloc (.cells (vc 0 0 ⟨#[]⟩) 26)).heap.size = w.heap.size + 1 by simp] at this
theorem Nest.lt1 {w a : World} {s : ByteArray} {j : Nat} (h : Nest w a s j) : w.heap.size + 1 < a.heap.size := At.lt h.at_
theorem Nest.moved {w a b : World} {s : ByteArray} {j i : Nat} (h : Nest w a s j) (m : Moved (w.heap.size + 1) a b s i) : Nest w b s i :=
  ⟨h.below.trans ((m.keep.upTo (by have := h.lt1; omega)).mono (by omega)), m.keep.at h.box (by omega), m.at_⟩
theorem Nest.below' {w a b : World} {s : ByteArray} {j : Nat} (h : Nest w a s j) (hb : Below a.heap.size a b) : Nest w b s j := h.moved ⟨.of hb, At.later h.at_ hb⟩
theorem Nest.fill5 {w a : World} {s : ByteArray} {j : Nat} (h : Nest w a s j) (v0 v1 v2 v3 v4 : Value) {wf : World} (hf : wf = set5 a w.heap.size v0 v1 v2 v3 v4) :
    Below w.heap.size w wf ∧ At wf w.heap.size 26 #[v0, v1, v2, v3, v4] ∧ wf.heap.size = a.heap.size ∧ ∀ k, k ≠ w.heap.size → wf.heap[k]? = a.heap[k]? := by
  subst hf
  exact ⟨below_set5 h.below (Nat.le_refl _) _ _ _ _ _, At.five h.box _ _ _ _ _, set5_size _ _ _ _ _ _ _, fun k hk => set5_other _ _ _ _ _ _ _ hk⟩
theorem Nest.fillZ {w a : World} {s : ByteArray} {j : Nat} (h : Nest w a s j) :
    let wf := ((((a.setCell ⟨w.heap.size, 0, none⟩ (.int .i64 0)).setCell ⟨w.heap.size, 1, none⟩ (.int .i64 0)).setCell ⟨w.heap.size, 2, none⟩ (.string ⟨#[]⟩)).setCell ⟨w.heap.size, 3, none⟩ (.slice none 0 0)).setCell ⟨w.heap.size, 4, none⟩ (.slice none 0 0)
    Below w.heap.size w wf ∧ At wf w.heap.size 26 (vc 0 0 ⟨#[]⟩) :=
  ⟨below_set5 h.below (Nat.le_refl _) _ _ _ _ _, h.box.vc5 0 0 _⟩
set_option maxHeartbeats 4000000 in
theorem pValue (m : Int) (s : ByteArray) (a : Int) (w : World) (_hs : s.size ≤ maxLen) (hG : Gr m w) :
    Calls Tryz.prog 89 #[.string s, .int .i64 a] w (SaidV w (pV s a)) := by
  by_cases hb : 60000 < s.size ∨ a < 0 ∨ (s.size : Int) < a
  · have HP := hid (show pV s a = (V0 0 0 eB, 1, 0) by unfold pV; rw [if_pos hb])
    rw [HP.out]
    have h1 : (60000 : Int) < s.size ∨ (¬ (60000 : Int) < s.size ∧ a < 0) ∨ (¬ (60000 : Int) < s.size ∧ ¬ a < 0 ∧ (s.size : Int) < a) := by omega
    clear hb
    rcases h1 with h1 | ⟨h1, h2⟩ | ⟨h1, h2, h3⟩
    all_goals
      go_enter Tryz.func89, Tryz.ntmps89
      go_wp2
      refine bodyPost_ret (v := .tuple #[.agg (vc 0 0 ⟨#[]⟩), .int .i64 0, .iface 86 (.int .i64 1)]) (by simp [results, Tryz.results89, go_sem]; try first | exact ⟨rfl, rfl⟩ | rfl) rfl ?_
      exact ⟨0, 0, ⟨#[]⟩, none, none, 0, 0, 0, 0, rfl, by first | exact below_box _ _ | exact below_set5 (below_box _ _) (Nat.le_refl _) _ _ _ _ _, hid (rep_0 _ _)⟩
  · have h1 : ¬ (60000 : Int) < s.size := by omega
    have h2 : ¬ a < 0 := by omega
    have h3 : ¬ (s.size : Int) < a := by omega
    obtain ⟨k, rfl⟩ : ∃ k : Nat, a = k := ⟨a.toNat, by omega⟩
    have HP := hid (show pV s k = if (rdV s 8 k).2.1 ≠ 0 then (V0 0 0 eB, (rdV s 8 k).2.1, 0) else if faultV (rdV s 8 k).1 ≠ 0 then (V0 0 0 eB, faultV (rdV s 8 k).1, 0) else rdV s 8 k by unfold pV; rw [if_neg hb, Int.toNat_natCast])
    clear hb
    have hv := fun (P : Nat) (w : World) (hE : Env m P w) (hR : RdAt w P s k) => yValue m P s (by omega) 8 1 (by omega) (by omega) w k hE hR (by omega)
    have HF := hid (rdV_fits s 8 k (by omega))
    generalize rdV s 8 k = r at HP hv HF
    obtain ⟨v, e1, z⟩ := r
    unfold Said at hv
    simp only at hv
    have HN0 := hid (Nest.new w s k)
    have HR0 := hid HN0.out.at_
    have HE0 := hid (((hG.below (below_box w (.cells (vc 0 0 ⟨#[]⟩) 26))).env (P := w.heap.size + 1) (by simp)).upTo (by
      have := below_box (w.alloc (.cells (vc 0 0 ⟨#[]⟩) 26)) (.cells #[.string s, .int .i64 k] 202)
      rwa [show (w.alloc (.cells (vc 0 0 ⟨#[]⟩) 26)).heap.size = w.heap.size + 1 by simp] at this))
    by_cases he : e1 = 0
    · subst he
      rw [errN_0] at hv
      have HC := hid (show v.cnt ≤ 1048576 by have := HF.out rfl; simp only at this; omega)
      by_cases hf : faultV v = 0
      · have HP2 := hid (show pV s k = (v, 0, z) by rw [HP.out, if_neg (by simp), if_neg (by simp [hf])])
        rw [HP2.out]
        have HFV := hid hf
        clear HP
        go_enter Tryz.func89, Tryz.ntmps89
        go_wp2_with (first | (go_at_call 140; go_must (refine (hv (w.heap.size + 1) _ HE0.out HR0.out).mono ?_); rintro e w1 ⟨k1, n1, t1, a1, a2, l1, c1, l2, c2, J, rfl, hm, HQ⟩; (have hN1 := HN0.out.moved hm); (have hz1 := hN1.lt1); (have hNa := hN1.below' (below_box w1 (.cells #[.int .i64 k1, .int .i64 n1, .string t1, .slice a1 l1 c1, .slice a2 l2 c2] 26))); obtain ⟨⟨bx0, bx1, bx2, bx3, bx4⟩, bf0, bf1, bf2, bf3, bf4⟩ := box5 hNa.box; (have rc1 := hNa.at_.c1)) | (go_at_call 141; (have hq3 := (HQ.out (by first | rfl | trivial)).2.2); go_must (refine (check_says (d := 9) (v := v) (cs := [.int .i64 k1, .int .i64 n1, .string t1, .slice a1 l1 c1, .slice a2 l2 c2]) (hq3.now.later (below_box w1 _)) HC.out).mono ?_); rintro e w2 ⟨he2, hb2⟩; rw [HFV.out, errN_0] at he2; subst he2; (have hNb := hNa.below' hb2); obtain ⟨⟨by0, by1, by2, by3, by4⟩, bg0, bg1, bg2, bg3, bg4⟩ := box5 hNb.box; (have rd1 := hNb.at_.c1); (have hVb := At.later (At.new w1 #[.int .i64 k1, .int .i64 n1, .string t1, .slice a1 l1 c1, .slice a2 l2 c2] 26 rfl) hb2); obtain ⟨⟨vy0, vy1, vy2, vy3, vy4⟩, _⟩ := five_cells hVb))
        have HQ3 := hid hq3
        have HJ := hid (HQ.out (by first | rfl | trivial)).1
        clear hq3
        go_region
        all_goals
          go_wp2
          obtain ⟨hM5, hB5, hS5, hO5⟩ := hNb.fill5 (.int .i64 k1) (.int .i64 n1) (.string t1) (.slice a1 l1 c1) (.slice a2 l2 c2) rfl
          unfold set5 at hM5 hB5 hS5 hO5
          generalize World.setCell _ _ _ = wf at hM5 hB5 hS5 hO5 ⊢
          have hB6 : At wf.drew w.heap.size 26 #[.int .i64 k1, .int .i64 n1, .string t1, .slice a1 l1 c1, .slice a2 l2 c2] := hB5
          obtain ⟨⟨cx0, cx1, cx2, cx3, cx4⟩, _⟩ := five_cells hB6
          refine bodyPost_ret (v := .tuple #[.agg #[.int .i64 k1, .int .i64 n1, .string t1, .slice a1 l1 c1, .slice a2 l2 c2], .int .i64 J, .nilIface]) (by simp [results, Tryz.results89, go_sem, cx0, cx1, cx2, cx3, cx4]; try first | exact ⟨rfl, rfl⟩ | rfl) rfl ?_
          refine ⟨k1, n1, t1, a1, a2, l1, c1, l2, c2, by rw [HJ.out]; rfl, hM5.drew, hid (HQ3.out wf.drew ?_ fun b hb => ?_)⟩
          · show w1.heap.size ≤ wf.heap.size
            have := hb2.size
            simp at this
            omega
          · show wf.heap[b]? = _
            have h1 := hb.1
            simp at h1
            rw [hO5 b (by omega), hb2.block b (by have := hb.2; simp; omega), heap_alloc_old _ _ hb.2]
      · have HP2 := hid (show pV s k = (V0 0 0 eB, faultV v, 0) by rw [HP.out, if_neg (by simp), if_pos hf])
        rw [HP2.out]
        have HX := hid hf
        have hfe := errN_pos hf
        unfold errV at hfe
        have HFE := hid hfe
        clear hfe hf HP
        go_enter Tryz.func89, Tryz.ntmps89
        go_wp2_with (first | (go_at_call 140; go_must (refine (hv (w.heap.size + 1) _ HE0.out HR0.out).mono ?_); rintro e w1 ⟨k1, n1, t1, a1, a2, l1, c1, l2, c2, J, rfl, hm, HQ⟩; (have hN1 := HN0.out.moved hm); (have hz1 := hN1.lt1); (have hNa := hN1.below' (below_box w1 (.cells #[.int .i64 k1, .int .i64 n1, .string t1, .slice a1 l1 c1, .slice a2 l2 c2] 26))); obtain ⟨⟨bx0, bx1, bx2, bx3, bx4⟩, bf0, bf1, bf2, bf3, bf4⟩ := box5 hNa.box; (have rc1 := hNa.at_.c1)) | (go_at_call 141; (have hq3 := (HQ.out (by first | rfl | trivial)).2.2); go_must (refine (check_says (d := 9) (v := v) (cs := [.int .i64 k1, .int .i64 n1, .string t1, .slice a1 l1 c1, .slice a2 l2 c2]) (hq3.now.later (below_box w1 _)) HC.out).mono ?_); rintro e w2 ⟨he2, hb2⟩; rw [HFE.out] at he2; subst he2; (have hNb := hNa.below' hb2); obtain ⟨⟨by0, by1, by2, by3, by4⟩, bg0, bg1, bg2, bg3, bg4⟩ := box5 hNb.box; (have rd1 := hNb.at_.c1); (have hVb := At.later (At.new w1 #[.int .i64 k1, .int .i64 n1, .string t1, .slice a1 l1 c1, .slice a2 l2 c2] 26 rfl) hb2); obtain ⟨⟨vy0, vy1, vy2, vy3, vy4⟩, _⟩ := five_cells hVb))
        obtain ⟨hM5, hB5⟩ := hNb.fillZ
        generalize World.setCell _ _ _ = wf at hB5 hM5 ⊢
        obtain ⟨⟨cx0, cx1, cx2, cx3, cx4⟩, _⟩ := box5 hB5
        refine bodyPost_ret (v := .tuple #[.agg (vc 0 0 ⟨#[]⟩), .int .i64 0, .iface 86 (.int .i64 (faultV v))]) (by simp [results, Tryz.results89, go_sem, cx0, cx1, cx2, cx3, cx4]; try first | exact ⟨rfl, rfl⟩ | rfl) rfl ?_
        exact ⟨0, 0, ⟨#[]⟩, none, none, 0, 0, 0, 0, by rw [HFE.out]; rfl, hM5, hid (rep_0 _ _)⟩
    · have HP2 := hid (show pV s k = (V0 0 0 eB, e1, 0) by rw [HP.out, if_pos he])
      rw [HP2.out]
      have HX := hid he
      rw [errN_pos he] at hv
      unfold errV at hv
      clear HP he
      go_enter Tryz.func89, Tryz.ntmps89
      go_wp2_with ((go_at_call 140; go_must (refine (hv (w.heap.size + 1) _ HE0.out HR0.out).mono ?_); rintro e w1 ⟨k1, n1, t1, a1, a2, l1, c1, l2, c2, J, rfl, hm, HQ⟩; (have hN1 := HN0.out.moved hm); (have hz1 := hN1.lt1); (have hNa := hN1.below' (below_box w1 (.cells #[.int .i64 k1, .int .i64 n1, .string t1, .slice a1 l1 c1, .slice a2 l2 c2] 26))); obtain ⟨⟨bx0, bx1, bx2, bx3, bx4⟩, bf0, bf1, bf2, bf3, bf4⟩ := box5 hNa.box; (have rc1 := hNa.at_.c1)))
      obtain ⟨hM5, hB5⟩ := hNa.fillZ
      generalize World.setCell _ _ _ = wf at hB5 hM5 ⊢
      obtain ⟨⟨cx0, cx1, cx2, cx3, cx4⟩, _⟩ := box5 hB5
      refine bodyPost_ret (v := .tuple #[.agg (vc 0 0 ⟨#[]⟩), .int .i64 0, .iface 86 (.int .i64 e1)]) (by simp [results, Tryz.results89, go_sem, cx0, cx1, cx2, cx3, cx4]; try first | exact ⟨rfl, rfl⟩ | rfl) rfl ?_
      exact ⟨0, 0, ⟨#[]⟩, none, none, 0, 0, 0, 0, by rw [errN_pos HX.out]; rfl, hM5, hid (rep_0 _ _)⟩
end Go.Proofs.YtefbfgcbbpmhlabGreatDoor

/-
  What the row's list and the world's shape give to reading: the tables, and two errors that are there.
-/
namespace Go.Proofs.YtefbfgcbbpmhlabGreatDoor
open Go.ChangeShapes Go.WideShapes Go.ChangeAt Go.RowKit
set_option maxRecDepth 100000

theorem gSyn : Tryz.prog.globalNamed "strconv.ErrSyntax" = some 1 := by kernel_rfl
theorem gSynType : (Tryz.prog.globals[1]?).map (·.type) = some 31 := by kernel_rfl
theorem gRng : Tryz.prog.globalNamed "strconv.ErrRange" = some 2 := by kernel_rfl
theorem gRngType : (Tryz.prog.globals[2]?).map (·.type) = some 31 := by kernel_rfl
theorem errStar : "*" ++ "errors.errorString" = "*errors.errorString" := by decide
theorem rowErrS (u : TypeId) (h : Tryz.prog.typeName? 3 u = some "*errors.errorString") : u = 359 :=
  typeName_ptr_named (nm := "errors.errorString") (by rw [errStar]; kernel_rfl) (by kernel_rfl) (by decide) u (by rw [errStar]; exact h)
theorem cellsErrS : Tryz.prog.cellsOf 361 = 1 := by kernel_rfl
theorem gr_of {W : World} (hL : laidMet Tryz.prog [("math/bits.deBruijn32tab", Rows.laid_math_bits_deBruijn32tab), ("math/bits.deBruijn64tab", Rows.laid_math_bits_deBruijn64tab), ("internal/strconv.uint64pow10", Rows.laid_internal_strconv_uint64pow10), ("strconv.ErrRange", Rows.laid_strconv_ErrRange), ("strconv.ErrSyntax", Rows.laid_strconv_ErrSyntax)] W) (hsh : W.ShapedOpen Tryz.prog) : ∃ m, Gr m W := by
  obtain ⟨m, hm⟩ := cell_of_shapedOpen_int (P := Tryz.prog) (g := 0) (t := 3) (zero := #[.int .i64 0]) hsh (of_decide_eq_true (by kernel_rfl)) (by kernel_rfl) rfl (by kernel_rfl) (by kernel_rfl) Tryz.underlying3
  have h3 := laidMet.tail (laidMet.tail (laidMet.tail hL))
  obtain ⟨a0, s0, hv0, -, -, -⟩ := laid_sentinel h3 gRng gRngType Tryz.underlying31 rowErrS Tryz.underlying359 Tryz.underlying361 rfl rfl Tryz.underlying9 cellsErrS cellsStr
  obtain ⟨a1, s1, hv1, -, -, -⟩ := laid_sentinel (laidMet.tail h3) gSyn gSynType Tryz.underlying31 rowErrS Tryz.underlying359 Tryz.underlying361 rfl rfl Tryz.underlying9 cellsErrS cellsStr
  exact ⟨m, ⟨Lib.tabIs_of_head gPow gPowType Tryz.underlying344 Tryz.underlying289 cellsU64 cellsPow (laidMet.tail (laidMet.tail hL)), hm⟩,
    ⟨_, by have h0 := World.var?_cell gSyn hv1 0; simpa using h0, .inr ⟨_, _, rfl⟩⟩, ⟨_, by have h0 := World.var?_cell gRng hv0 0; simpa using h0, .inr ⟨_, _, rfl⟩⟩⟩
abbrev synS : ByteArray := { data := #[105, 110, 118, 97, 108, 105, 100, 32, 115, 121, 110, 116, 97, 120] }
abbrev rngS : ByteArray := { data := #[118, 97, 108, 117, 101, 32, 111, 117, 116, 32, 111, 102, 32, 114, 97, 110, 103, 101] }
/-- So many blocks has the settled world. -/
noncomputable def low : Nat := (World.holding Tryz.prog default ⟨#[], #[], []⟩).heap.size
def sentBlock (a : Nat) : Obj → Obj
  | .cells _ t frozen => .cells #[.iface 359 (.pointer (some ⟨a, 0, none⟩))] t frozen
  | o => o
/-- A world for the witness: the settled one, the tables and the two errors as their initialisers lay them. -/
noncomputable def laidWorld5 (os : Os) : World :=
  { World.holding Tryz.prog os ⟨#[.cells #[.string synS] 361, .cells #[.string rngS] 361], #[], []⟩ with heap := ((laidHeap (World.holding Tryz.prog os ⟨#[.cells #[.string synS] 361, .cells #[.string rngS] 361], #[], []⟩).heap).modify 1 (sentBlock low)).modify 2 (sentBlock (low + 1)) }
end Go.Proofs.YtefbfgcbbpmhlabGreatDoor

/-
  parse.Value, whole: where the value lies.
-/
namespace Go.Proofs.YtefbfgcbbpmhlabGreatDoor
open Go.RowKit
set_option maxRecDepth 100000

theorem repIn_0 (S : Nat → Prop) (d : Nat) (w : World) : RepIn S (d + 1) w (V0 0 0 eB) [.int .i64 0, .int .i64 0, .string ⟨#[]⟩, .slice none 0 0, .slice none 0 0] := repIn_vc S d w 0 0 eB (by decide)
/-- What a call that reads a value from a place on says; the value lies in new blocks. -/
def SaidI (w : World) (r : Rd) (e : Ending) (w' : World) : Prop :=
  ∃ (k n : Int) (t : ByteArray) (a1 a2 : Option Addr) (l1 c1 l2 c2 : Nat), e = .returned (.tuple #[.agg #[.int .i64 k, .int .i64 n, .string t, .slice a1 l1 c1, .slice a2 l2 c2], .int .i64 (r.2.2 : Nat), errN r.2.1]) ∧ Below w.heap.size w w' ∧
    Hid (RepIn (fun b => w.heap.size ≤ b ∧ b < w'.heap.size) 9 w' r.1 [.int .i64 k, .int .i64 n, .string t, .slice a1 l1 c1, .slice a2 l2 c2])
set_option maxHeartbeats 4000000 in
theorem pValueI (m : Int) (s : ByteArray) (a : Int) (w : World) (_hs : s.size ≤ maxLen) (hG : Gr m w) :
    Calls Tryz.prog 89 #[.string s, .int .i64 a] w (SaidI w (pV s a)) := by
  by_cases hb : 60000 < s.size ∨ a < 0 ∨ (s.size : Int) < a
  · have HP := hid (show pV s a = (V0 0 0 eB, 1, 0) by unfold pV; rw [if_pos hb])
    rw [HP.out]
    have h1 : (60000 : Int) < s.size ∨ (¬ (60000 : Int) < s.size ∧ a < 0) ∨ (¬ (60000 : Int) < s.size ∧ ¬ a < 0 ∧ (s.size : Int) < a) := by omega
    clear hb
    rcases h1 with h1 | ⟨h1, h2⟩ | ⟨h1, h2, h3⟩
    all_goals
      go_enter Tryz.func89, Tryz.ntmps89
      go_wp2
      refine bodyPost_ret (v := .tuple #[.agg (vc 0 0 ⟨#[]⟩), .int .i64 0, .iface 86 (.int .i64 1)]) (by simp [results, Tryz.results89, go_sem]; try first | exact ⟨rfl, rfl⟩ | rfl) rfl ?_
      exact ⟨0, 0, ⟨#[]⟩, none, none, 0, 0, 0, 0, rfl, by first | exact below_box _ _ | exact below_set5 (below_box _ _) (Nat.le_refl _) _ _ _ _ _, hid (repIn_0 _ _ _)⟩
  · have h1 : ¬ (60000 : Int) < s.size := by omega
    have h2 : ¬ a < 0 := by omega
    have h3 : ¬ (s.size : Int) < a := by omega
    obtain ⟨k, rfl⟩ : ∃ k : Nat, a = k := ⟨a.toNat, by omega⟩
    have HP := hid (show pV s k = if (rdV s 8 k).2.1 ≠ 0 then (V0 0 0 eB, (rdV s 8 k).2.1, 0) else if faultV (rdV s 8 k).1 ≠ 0 then (V0 0 0 eB, faultV (rdV s 8 k).1, 0) else rdV s 8 k by unfold pV; rw [if_neg hb, Int.toNat_natCast])
    clear hb
    have hv := fun (P : Nat) (w : World) (hE : Env m P w) (hR : RdAt w P s k) => yValue m P s (by omega) 8 1 (by omega) (by omega) w k hE hR (by omega)
    have HF := hid (rdV_fits s 8 k (by omega))
    generalize rdV s 8 k = r at HP hv HF
    obtain ⟨v, e1, z⟩ := r
    unfold Said at hv
    simp only at hv
    have HN0 := hid (Nest.new w s k)
    have HR0 := hid HN0.out.at_
    have HE0 := hid (((hG.below (below_box w (.cells (vc 0 0 ⟨#[]⟩) 26))).env (P := w.heap.size + 1) (by simp)).upTo (by
      have := below_box (w.alloc (.cells (vc 0 0 ⟨#[]⟩) 26)) (.cells #[.string s, .int .i64 k] 202)
      rwa [show (w.alloc (.cells (vc 0 0 ⟨#[]⟩) 26)).heap.size = w.heap.size + 1 by simp] at this))
    by_cases he : e1 = 0
    · subst he
      rw [errN_0] at hv
      have HC := hid (show v.cnt ≤ 1048576 by have := HF.out rfl; simp only at this; omega)
      by_cases hf : faultV v = 0
      · have HP2 := hid (show pV s k = (v, 0, z) by rw [HP.out, if_neg (by simp), if_neg (by simp [hf])])
        rw [HP2.out]
        have HFV := hid hf
        clear HP
        go_enter Tryz.func89, Tryz.ntmps89
        go_wp2_with (first | (go_at_call 140; go_must (refine (hv (w.heap.size + 1) _ HE0.out HR0.out).mono ?_); rintro e w1 ⟨k1, n1, t1, a1, a2, l1, c1, l2, c2, J, rfl, hm, HQ⟩; (have hN1 := HN0.out.moved hm); (have hz1 := hN1.lt1); (have hNa := hN1.below' (below_box w1 (.cells #[.int .i64 k1, .int .i64 n1, .string t1, .slice a1 l1 c1, .slice a2 l2 c2] 26))); obtain ⟨⟨bx0, bx1, bx2, bx3, bx4⟩, bf0, bf1, bf2, bf3, bf4⟩ := box5 hNa.box; (have rc1 := hNa.at_.c1)) | (go_at_call 141; (have hq3 := (HQ.out (by first | rfl | trivial)).2.2); go_must (refine (check_says (d := 9) (v := v) (cs := [.int .i64 k1, .int .i64 n1, .string t1, .slice a1 l1 c1, .slice a2 l2 c2]) (hq3.now.later (below_box w1 _)) HC.out).mono ?_); rintro e w2 ⟨he2, hb2⟩; rw [HFV.out, errN_0] at he2; subst he2; (have hNb := hNa.below' hb2); obtain ⟨⟨by0, by1, by2, by3, by4⟩, bg0, bg1, bg2, bg3, bg4⟩ := box5 hNb.box; (have rd1 := hNb.at_.c1); (have hVb := At.later (At.new w1 #[.int .i64 k1, .int .i64 n1, .string t1, .slice a1 l1 c1, .slice a2 l2 c2] 26 rfl) hb2); obtain ⟨⟨vy0, vy1, vy2, vy3, vy4⟩, _⟩ := five_cells hVb))
        have HQ3 := hid hq3
        have HJ := hid (HQ.out (by first | rfl | trivial)).1
        clear hq3
        go_region
        all_goals
          go_wp2
          obtain ⟨hM5, hB5, hS5, hO5⟩ := hNb.fill5 (.int .i64 k1) (.int .i64 n1) (.string t1) (.slice a1 l1 c1) (.slice a2 l2 c2) rfl
          unfold set5 at hM5 hB5 hS5 hO5
          generalize World.setCell _ _ _ = wf at hM5 hB5 hS5 hO5 ⊢
          have hB6 : At wf.drew w.heap.size 26 #[.int .i64 k1, .int .i64 n1, .string t1, .slice a1 l1 c1, .slice a2 l2 c2] := hB5
          obtain ⟨⟨cx0, cx1, cx2, cx3, cx4⟩, _⟩ := five_cells hB6
          refine bodyPost_ret (v := .tuple #[.agg #[.int .i64 k1, .int .i64 n1, .string t1, .slice a1 l1 c1, .slice a2 l2 c2], .int .i64 J, .nilIface]) (by simp [results, Tryz.results89, go_sem, cx0, cx1, cx2, cx3, cx4]; try first | exact ⟨rfl, rfl⟩ | rfl) rfl ?_
          have hwf : w1.heap.size ≤ wf.heap.size := by have := hb2.size; simp at this; omega
          refine ⟨k1, n1, t1, a1, a2, l1, c1, l2, c2, by rw [HJ.out]; rfl, hM5.drew, hid ((HQ3.out.agree (w' := wf.drew) hwf fun b hb => ?_).mono fun b hb => ⟨by have := hb.1; simp at this; omega, Nat.lt_of_lt_of_le hb.2 hwf⟩)⟩
          · show wf.heap[b]? = _
            have h1 := hb.1
            simp at h1
            rw [hO5 b (by omega), hb2.block b (by have := hb.2; simp; omega), heap_alloc_old _ _ hb.2]
      · have HP2 := hid (show pV s k = (V0 0 0 eB, faultV v, 0) by rw [HP.out, if_neg (by simp), if_pos hf])
        rw [HP2.out]
        have HX := hid hf
        have hfe := errN_pos hf
        unfold errV at hfe
        have HFE := hid hfe
        clear hfe hf HP
        go_enter Tryz.func89, Tryz.ntmps89
        go_wp2_with (first | (go_at_call 140; go_must (refine (hv (w.heap.size + 1) _ HE0.out HR0.out).mono ?_); rintro e w1 ⟨k1, n1, t1, a1, a2, l1, c1, l2, c2, J, rfl, hm, HQ⟩; (have hN1 := HN0.out.moved hm); (have hz1 := hN1.lt1); (have hNa := hN1.below' (below_box w1 (.cells #[.int .i64 k1, .int .i64 n1, .string t1, .slice a1 l1 c1, .slice a2 l2 c2] 26))); obtain ⟨⟨bx0, bx1, bx2, bx3, bx4⟩, bf0, bf1, bf2, bf3, bf4⟩ := box5 hNa.box; (have rc1 := hNa.at_.c1)) | (go_at_call 141; (have hq3 := (HQ.out (by first | rfl | trivial)).2.2); go_must (refine (check_says (d := 9) (v := v) (cs := [.int .i64 k1, .int .i64 n1, .string t1, .slice a1 l1 c1, .slice a2 l2 c2]) (hq3.now.later (below_box w1 _)) HC.out).mono ?_); rintro e w2 ⟨he2, hb2⟩; rw [HFE.out] at he2; subst he2; (have hNb := hNa.below' hb2); obtain ⟨⟨by0, by1, by2, by3, by4⟩, bg0, bg1, bg2, bg3, bg4⟩ := box5 hNb.box; (have rd1 := hNb.at_.c1); (have hVb := At.later (At.new w1 #[.int .i64 k1, .int .i64 n1, .string t1, .slice a1 l1 c1, .slice a2 l2 c2] 26 rfl) hb2); obtain ⟨⟨vy0, vy1, vy2, vy3, vy4⟩, _⟩ := five_cells hVb))
        obtain ⟨hM5, hB5⟩ := hNb.fillZ
        generalize World.setCell _ _ _ = wf at hB5 hM5 ⊢
        obtain ⟨⟨cx0, cx1, cx2, cx3, cx4⟩, _⟩ := box5 hB5
        refine bodyPost_ret (v := .tuple #[.agg (vc 0 0 ⟨#[]⟩), .int .i64 0, .iface 86 (.int .i64 (faultV v))]) (by simp [results, Tryz.results89, go_sem, cx0, cx1, cx2, cx3, cx4]; try first | exact ⟨rfl, rfl⟩ | rfl) rfl ?_
        exact ⟨0, 0, ⟨#[]⟩, none, none, 0, 0, 0, 0, by rw [HFE.out]; rfl, hM5, hid (repIn_0 _ _ _)⟩
    · have HP2 := hid (show pV s k = (V0 0 0 eB, e1, 0) by rw [HP.out, if_pos he])
      rw [HP2.out]
      have HX := hid he
      rw [errN_pos he] at hv
      unfold errV at hv
      clear HP he
      go_enter Tryz.func89, Tryz.ntmps89
      go_wp2_with ((go_at_call 140; go_must (refine (hv (w.heap.size + 1) _ HE0.out HR0.out).mono ?_); rintro e w1 ⟨k1, n1, t1, a1, a2, l1, c1, l2, c2, J, rfl, hm, HQ⟩; (have hN1 := HN0.out.moved hm); (have hz1 := hN1.lt1); (have hNa := hN1.below' (below_box w1 (.cells #[.int .i64 k1, .int .i64 n1, .string t1, .slice a1 l1 c1, .slice a2 l2 c2] 26))); obtain ⟨⟨bx0, bx1, bx2, bx3, bx4⟩, bf0, bf1, bf2, bf3, bf4⟩ := box5 hNa.box; (have rc1 := hNa.at_.c1)))
      obtain ⟨hM5, hB5⟩ := hNa.fillZ
      generalize World.setCell _ _ _ = wf at hB5 hM5 ⊢
      obtain ⟨⟨cx0, cx1, cx2, cx3, cx4⟩, _⟩ := box5 hB5
      refine bodyPost_ret (v := .tuple #[.agg (vc 0 0 ⟨#[]⟩), .int .i64 0, .iface 86 (.int .i64 e1)]) (by simp [results, Tryz.results89, go_sem, cx0, cx1, cx2, cx3, cx4]; try first | exact ⟨rfl, rfl⟩ | rfl) rfl ?_
      exact ⟨0, 0, ⟨#[]⟩, none, none, 0, 0, 0, 0, by rw [errN_pos HX.out]; rfl, hM5, hid (repIn_0 _ _ _)⟩
end Go.Proofs.YtefbfgcbbpmhlabGreatDoor
