/-
  Joined: Vx, Pz, Kj.
-/
import Derived.Test.YtflcibmjblioaaaGreatDoorVw
import Derived.Test.YtflcibmjblioaaaGreatDoorPk
import Derived.Test.YtflcibmjblioaaaGreatDoorVr
import Derived.Test.YtflcibmjblioaaaGreatDoorLe
import Derived.Test.YtflcibmjblioaaaGreatDoorLf
import Derived.Test.YtflcibmjblioaaaGreatDoorFe

/-
  The text of a value, or what is wrong with it.
-/
namespace Go.Proofs.YtflcibmjblioaaaGreatDoor
open Go.RowKit
set_option maxRecDepth 100000

noncomputable def textOf (v : V) : ByteArray := if faultV v = 0 then ⟨v.txt.toArray⟩ else ⟨#[]⟩
theorem fault_cases (v : V) : faultV v = 0 ∧ v.Shp ∧ v.cnt ≤ 300 ∨ faultV v = 2 ∨ faultV v = 3 := by
  by_cases h : 300 < v.cnt ∨ 8 < v.dep
  · exact .inr (.inl (fault_many h))
  · by_cases h' : v.Shp
    · exact .inl ⟨fault_none h h', h', by omega⟩
    · exact .inr (.inr (fault_shape h h'))
set_option maxHeartbeats 400000 in
theorem vText_bad {d : Nat} {v : V} {cs : List Value} {w : World} (k : Int) (hk : k = 2 ∨ k = 3) (hv : RepN d w v cs) (hc : v.cnt ≤ 1048576) (hf : faultV v = k) :
    Calls Tryz.prog 38 #[.agg cs.toArray] w fun e w' => e = .returned (.tuple #[.string ⟨#[]⟩, errN k]) ∧ Below w.heap.size w w' := by
  obtain ⟨e, rfl⟩ := hv.inv
  have H := hid (fun w1 hb => check_says (w := w1) (hv.later hb) hc)
  rw [hf] at H
  clear hf
  obtain ⟨al, af, cl, cf, rfl, _⟩ := hv
  have he : errN k = .iface 50 (.int .i64 k) := by rw [errN_pos (by omega)]; rfl
  rw [he] at H ⊢
  clear he
  go_enter Tryz.func38, Tryz.ntmps38
  go_wp2_with (go_at_call 56; refine (H.out _ (by go_grown)).mono ?_; rintro e w1 ⟨rfl, hb1⟩)
  go_ret2
  exact ⟨rfl, Below.trans (by go_grown) (hb1.mono (by simp))⟩
set_option maxHeartbeats 400000 in
theorem vText_ok {m : Int} {d : Nat} {v : V} {cs : List Value} {w : World} (hr : Rdy m w) (hv : RepN d w v cs) (hsh : v.Shp) (hc : v.cnt ≤ 300) (hf : faultV v = 0) :
    Calls Tryz.prog 38 #[.agg cs.toArray] w fun e w' => e = .returned (.tuple #[.string ⟨v.txt.toArray⟩, .nilIface]) ∧ Below w.heap.size w w' := by
  obtain ⟨e, rfl⟩ := hv.inv
  have hbk := bulk_shp v hsh
  have H := hid (fun w1 hb => check_says (w := w1) (hv.later hb) (by omega))
  have H2 := hid (fun w1 hb => addText_says hr (e + 1) v cs w1 w1.heap.size (.slice none 0 0) [] hv hsh hb hb.size (Nat.le_refl _) (Own8.nil _ _) (by simp; omega))
  rw [hf, errN_0] at H
  clear hf
  obtain ⟨al, af, cl, cf, rfl, _⟩ := hv
  go_enter Tryz.func38, Tryz.ntmps38
  go_wp2_with (first
    | (go_at_call 56; refine (H.out _ (by go_grown)).mono ?_; rintro e w1 ⟨rfl, hb1⟩; have hA := (At.new w _ _ rfl).later hb1; have mc := hA.cell; have mz := hA.lt; have hb2 : Below w.heap.size w w1 := Below.trans (by go_grown) (hb1.mono (by simp)); clear hb1)
    | (go_at_call 64; refine (H2.out _ hb2).mono ?_; rintro e w2 ⟨v2, rfl, hown2, hk2⟩; have hcv := own8_conv hown2; simp at hcv))
  go_ret2
  exact ⟨rfl, hb2.trans (hk2.below.mono hb2.size)⟩
theorem vText_says {m : Int} {d : Nat} {v : V} {cs : List Value} {w : World} (hr : Rdy m w) (hv : RepN d w v cs) (hc : v.cnt ≤ 1048576) :
    Calls Tryz.prog 38 #[.agg cs.toArray] w fun e w' => e = .returned (.tuple #[.string (textOf v), errN (faultV v)]) ∧ Below w.heap.size w w' := by
  unfold textOf
  rcases fault_cases v with ⟨h, h1, h2⟩ | h | h
  · rw [if_pos h, h, errN_0]; exact vText_ok hr hv h1 h2 h
  · rw [if_neg (by omega), h]; exact vText_bad 2 (.inl rfl) hv hc h
  · rw [if_neg (by omega), h]; exact vText_bad 3 (.inr rfl) hv hc h
end Go.Proofs.YtflcibmjblioaaaGreatDoor

/-
  How long a value's text is. Plain.
-/
namespace Go.Proofs.YtflcibmjblioaaaGreatDoor
open Go.RowKit
set_option maxRecDepth 100000

theorem sepsL_long : ∀ l : List V, (∀ x ∈ l, x.txt.length + 1 ≤ 4 * x.bulk + 45 * x.cnt) → (sepsL l).length ≤ 4 * bulkL l + 45 * cntL l
  | [], _ => by simp [sepsL]
  | x :: l, h => by
    have a := h x (by simp)
    have b := sepsL_long l (fun y hy => h y (by simp [hy]))
    rw [sepsL, bulkL, cntL]
    simp
    omega
theorem sepsF_long : ∀ l : List (ByteArray × V), (∀ q ∈ l, q.2.txt.length + 1 ≤ 4 * q.2.bulk + 45 * q.2.cnt) → (sepsF l).length ≤ 4 * bulkF l + 45 * cntF l
  | [], _ => by simp [sepsF]
  | q :: l, h => by
    have a := h q (by simp)
    have b := sepsF_long l (fun y hy => h y (by simp [hy]))
    have c := flatN_len q.1.data.toList
    have z : q.1.data.toList.length = q.1.size := by simp
    rw [z] at c
    rw [sepsF, fieldT_eq, bulkF_cons, cntF_cons, nameT]
    simp only [List.length_append, List.length_cons]
    omega
theorem txt_long (v : V) : v.Shp → v.txt.length + 1 ≤ 4 * v.bulk + 45 * v.cnt := by
  induction v using V.ind with
  | h v hL hF =>
    intro hS
    obtain ⟨ho, sL, sF⟩ := (shp_eq v).1 hS
    have aL := sepsL_long v.l (fun x hx => hL x hx (by
      obtain ⟨i, hi⟩ := List.getElem?_of_mem hx
      exact (shpL_iff v.l).1 sL i x hi))
    have aF := sepsF_long v.f (fun q hq => hF q hq (by
      obtain ⟨i, hi⟩ := List.getElem?_of_mem hq
      exact (shpF_iff v.f).1 sF i q hi))
    have zs : v.s.data.toList.length = v.s.size := by simp
    have cS := flat_len v.s.data.toList
    have cN := flatN_len v.s.data.toList
    rw [zs] at cS cN
    rw [bulk_eq', cnt_eq, txt_eq]
    rcases ho with ⟨hk, _⟩ | ⟨hk, _⟩ | ⟨hk, hn, _⟩ | ⟨hk, _⟩ | ⟨hk, _⟩ | ⟨hk, _⟩ | ⟨hk, _⟩ | ⟨hk, h1, h2, _⟩ <;> rw [hk]
    · show 4 + 1 ≤ _; omega
    · rw [if_pos rfl]; split
      · show 4 + 1 ≤ _; omega
      · show 5 + 1 ≤ _; omega
    · rw [if_neg (by decide), if_pos rfl, txtB_ok hn]
      have := fixTxt_len v.n hn
      show (fixTxt v.n).length + 1 ≤ _
      omega
    · show (strT v.s.data.toList).length + 1 ≤ _
      unfold strT
      simp only [List.length_append, List.length_cons, List.length_nil]
      omega
    · show (nameT v.s.data.toList).length + 1 ≤ _
      unfold nameT
      simp only [List.length_cons]
      omega
    · show (91 :: (sepsL v.l).drop 1 ++ [93]).length + 1 ≤ _
      simp only [List.length_append, List.length_cons, List.length_nil, List.length_drop]
      omega
    · show (60 :: 60 :: sepsF v.f ++ [32, 62, 62]).length + 1 ≤ _
      simp only [List.length_append, List.length_cons, List.length_nil]
      omega
    · show (Lib.decDigits (v.n.toNat % 100) ++ [32, 48, 32, 82]).length + 1 ≤ _
      have q : (Lib.decDigits (v.n.toNat % 100)).length ≤ 2 := by
        by_cases h : v.n.toNat % 100 < 10
        · rw [dec_one h]; simp
        · rw [Lib.decDigits_two h (by omega)]; simp
      simp only [List.length_append, List.length_cons, List.length_nil]
      omega
end Go.Proofs.YtflcibmjblioaaaGreatDoor

/-
  An object, as it is laid (file.objectText).
-/
namespace Go.Proofs.YtflcibmjblioaaaGreatDoor
open Go.RowKit
set_option maxRecDepth 100000

def objW : List UInt8 := [32, 48, 32, 111, 98, 106]
def endW : List UInt8 := [101, 110, 100, 111, 98, 106, 10]
def streamW : List UInt8 := [115, 116, 114, 101, 97, 109]
def endsW : List UInt8 := [101, 110, 100, 115, 116, 114, 101, 97, 109]
/-- The text of an object. -/
def obT (o : Ob) : List UInt8 := Lib.itoa o.n ++ objW ++ 10 :: ((lvR o).1.txt ++ 10 :: ((if o.st then streamW ++ 10 :: (o.dt.data.toList ++ 10 :: (endsW ++ [10])) else []) ++ endW))
/-- What is wrong with an object. -/
noncomputable def obF (o : Ob) : Int := if 1 ≤ o.n ∧ o.n ≤ 60 then (if (lvR o).2 ≠ 0 then (lvR o).2 else faultV (lvR o).1) else 1
theorem errN_cs (e : Int) : (e = 0 ∧ errN e = .nilIface) ∨ (e ≠ 0 ∧ errN e = .iface 50 (.int .i64 e)) := by
  by_cases h : e = 0
  · subst h; exact .inl ⟨rfl, errN_0⟩
  · have := errN_pos h
    unfold errV at this
    exact .inr ⟨h, this⟩
theorem itoa_few {n : Int} (h1 : 1 ≤ n) (h2 : n < 100) : (Lib.itoa n).length ≤ 2 := by
  have key : ∀ k : Fin 100, (Lib.itoa (k.val : Int)).length ≤ 2 := by decide +kernel
  have := key ⟨n.toNat, by omega⟩
  rw [show ((n.toNat : Nat) : Int) = n by omega] at this
  exact this
theorem mayBe_is (n : Int) (w : World) {b : Bool} (h : decide (1 ≤ n ∧ n ≤ 60) = b) : Calls Tryz.prog 15 #[.int .i64 n] w fun e w' => e = .returned (.bool b) ∧ w' = w := by
  subst h; exact mayBe_says n w
theorem cntF_app : ∀ (a b : List (ByteArray × V)), cntF (a ++ b) = cntF a + cntF b
  | [], b => by simp [cntF]
  | q :: a, b => by rw [List.cons_append, cntF_cons, cntF_cons, cntF_app a b]; omega
theorem cntF_set (name : ByteArray) (x : V) (f : List (ByteArray × V)) : cntF (psetF name x f) ≤ cntF f + x.cnt := by
  have cut : ∀ i, cntF f = cntF (f.take i) + cntF (f.drop i) := fun i => by rw [← cntF_app, List.take_append_drop]
  have new : ∀ i, cntF (f.take i ++ (name, x) :: f.drop i) = cntF f + x.cnt := fun i => by
    rw [cntF_app, cntF_cons, cut i]; simp only; omega
  unfold psetF
  split
  · rename_i i _
    rw [cntF_app, cntF_cons]
    have h1 := cut i
    have h2 : cntF (f.drop (i + 1)) ≤ cntF (f.drop i) := by
      cases h : f.drop i with
      | nil => rw [show f.drop (i + 1) = [] by rw [← List.drop_drop, h]; rfl]; exact Nat.le_refl _
      | cons q r => rw [show f.drop (i + 1) = r by rw [← List.drop_drop, h]; rfl, cntF_cons]; omega
    simp only
    omega
  · split
    · rw [new]; exact Nat.le_refl _
    · rw [new]; exact Nat.le_refl _
theorem lv_cnt (o : Ob) : (lvR o).1.cnt ≤ o.v.cnt + 1 := by
  have h0 : (V0 0 0 eB).cnt = 1 := by rw [cnt_eq]; simp [V0, cntL, cntF]
  have hp : 1 ≤ o.v.cnt := by rw [cnt_eq]; omega
  unfold lvR
  split
  · split
    · show (V0 0 0 eB).cnt ≤ _; omega
    · show o.v.cnt ≤ _; omega
  · split
    · show (V0 0 0 eB).cnt ≤ _; omega
    · split
      · show (V0 0 0 eB).cnt ≤ _; omega
      · have hx : (V0 2 (o.dt.size * 1000) eB).cnt = 1 := by rw [cnt_eq]; simp [V0, cntL, cntF]
        have := cntF_set lenN (V0 2 (o.dt.size * 1000) eB) o.v.f
        rw [cnt_eq, cnt_eq o.v]
        simp only
        omega
theorem lv_data (o : Ob) (h : (lvR o).2 = 0) : o.dt.size ≤ 20000 := by
  unfold lvR at h
  split at h
  · split at h
    · exact absurd (show (3 : Int) = 0 from h) (by decide)
    · rename_i h1; omega
  · split at h
    · exact absurd (show (8 : Int) = 0 from h) (by decide)
    · split at h
      · exact absurd (show (2 : Int) = 0 from h) (by decide)
      · omega
/-- Lines of texts that stand in a new block. -/
theorem lines_new (xs : List ByteArray) (n : Nat) (cells : Array Value) (L : ByteArray) (W : World) (hc : cells = (xs.map Value.string).toArray) (hn : xs.length = n) (hN : xs.length ≤ 10) (hlen : (Lib.join (xs.map (·.data.toList)) [10]).length ≤ 100000000) (hL : L.data.toList = linesL (xs.map (·.data.toList))) :
    Calls Tryz.prog 39 #[.slice (some ⟨W.heap.size, 0, none⟩) n n] (W.alloc (.cells cells 9)) fun e w' => e = .returned (.string L) ∧ Below W.heap.size W w' := by
  subst hc hn
  have e : L = ⟨(linesL (xs.map (·.data.toList))).toArray⟩ := by
    apply ByteArray.ext; apply Array.toList_inj.1; rw [hL]
  rw [e]
  refine (lines_says W.heap.size 0 xs.length xs _ (fun j x hx => ?_) (by simp) (by omega) (Nat.le_refl _) hlen).mono ?_
  · rw [Nat.zero_add, World.cell?_alloc_new]; simp [hx]
  · rintro e w' ⟨rfl, hb⟩
    exact ⟨rfl, (below_box W _).trans (hb.mono (by simp))⟩
set_option maxHeartbeats 4000000 in
theorem objectText_says {m : Int} {d : Nat} {w : World} (o : Ob) (cs : List Value) (hr : Rdy m w) (hv : RepN d w o.v cs) (hd : o.dt.size ≤ maxLen) (hc : o.v.cnt ≤ 1000000) :
    Calls Tryz.prog 36 #[.agg (obC o.n cs o.st o.dt).toArray] w fun e w' => e = .returned (.tuple #[.string (if obF o = 0 then ⟨(obT o).toArray⟩ else ⟨#[]⟩), errN (obF o)]) ∧ Below w.heap.size w w' := by
  by_cases hn : 1 ≤ o.n ∧ o.n ≤ 60
  · have hmb := fun (w : World) => mayBe_is o.n w (decide_eq_true hn)
    have hlv := fun (w1 : World) (h : Below w.heap.size w w1) => laidValue_says o cs (hv.later h) hd (by omega)
    have hF : obF o = if (lvR o).2 ≠ 0 then (lvR o).2 else faultV (lvR o).1 := by unfold obF; rw [if_pos hn]
    obtain ⟨S0, hS0⟩ : ∃ S0 : ByteArray, (if obF o = 0 then (⟨(obT o).toArray⟩ : ByteArray) else ⟨#[]⟩) = S0 := ⟨_, rfl⟩
    rw [hS0]
    have HS0 := hid hS0
    obtain ⟨F, hFF⟩ : ∃ F, obF o = F := ⟨_, rfl⟩
    rw [hFF]
    rw [hFF] at hF
    have HFF := hid hFF
    clear hS0 hFF
    obtain ⟨e', rfl⟩ := hv.inv
    obtain ⟨al, af, cl, cf, rfl, hsz, _⟩ := hv
    unfold obC at hlv ⊢
    simp only [List.cons_append, List.nil_append] at hlv ⊢
    go_enter Tryz.func36, Tryz.ntmps36
    go_wp2_with (first | (go_at_call 15; refine (hmb _).mono ?_; rintro e w1 ⟨rfl, hw1⟩; rw [hw1]; clear hw1 w1) | (go_at_call 63; fail))
    have hcT := lv_cnt o
    have hdt := lv_data o
    have hTT : obT o = Lib.itoa o.n ++ objW ++ 10 :: ((lvR o).1.txt ++ 10 :: ((if o.st then streamW ++ 10 :: (o.dt.data.toList ++ 10 :: (endsW ++ [10])) else []) ++ endW)) := rfl
    generalize lvR o = R at hlv hF hcT hdt hTT
    obtain ⟨T, E⟩ := R
    simp only at hlv hF hcT hdt hTT
    have HTT := hid hTT
    have HF := hid hF
    clear hTT hF
    go_at_call 63
    refine (hlv _ (by go_grown)).mono ?_
    rintro e w1 ⟨⟨c, rfl, hr1⟩, hb1⟩
    have hB1 : Below w.heap.size w w1 := (below_box w (.cells #[.int .i64 o.n, .int .i64 o.v.k, .int .i64 o.v.n, .string o.v.s, .slice al o.v.l.length cl, .slice af o.v.f.length cf, .bool o.st, .string o.dt] 42)).trans (hb1.mono (by simp))
    have AO := (At.new w #[.int .i64 o.n, .int .i64 o.v.k, .int .i64 o.v.n, .string o.v.s, .slice al o.v.l.length cl, .slice af o.v.f.length cf, .bool o.st, .string o.dt] 42 rfl).later hb1
    have HR1 := hid hr1
    obtain ⟨al2, af2, cl2, cf2, rfl, _⟩ := hr1
    rcases errN_cs E with ⟨hE, hev⟩ | ⟨hE, hev⟩
    · subst hE
      rw [hev]
      have hdt := hdt rfl
      have HF2 := hid (show F = faultV T by rw [HF.out, if_neg (by simp)])
      clear hev HF hlv
      have htx := hid (fun (w2 : World) (h : Below w1.heap.size w1 w2) => vText_says ((hr.below hB1).below h) (HR1.out.later h) (by omega))
      have AV := AO.alloc (.cells #[.int .i64 T.k, .int .i64 T.n, .string T.s, .slice al2 T.l.length cl2, .slice af2 T.f.length cf2] 40)
      have hBa : Below w.heap.size w (w1.alloc (.cells #[.int .i64 T.k, .int .i64 T.n, .string T.s, .slice al2 T.l.length cl2, .slice af2 T.f.length cf2] 40)) := hB1.alloc hB1.size _
      by_cases hfT : faultV T = 0
      · have hshp : T.Shp ∧ T.cnt ≤ 300 := by
          rcases fault_cases T with ⟨_, q, q'⟩ | q | q
          · exact ⟨q, q'⟩
          · rw [q] at hfT; exact absurd hfT (by decide)
          · rw [q] at hfT; exact absurd hfT (by decide)
        have hbk := bulk_shp T hshp.1
        have hlen := txt_long T hshp.1
        have hcn := hshp.2
        have ext : textOf T = ⟨T.txt.toArray⟩ := by unfold textOf; rw [if_pos hfT]
        rw [ext, hfT, errN_0] at htx
        obtain ⟨X, hX⟩ : ∃ X : ByteArray, (⟨T.txt.toArray⟩ : ByteArray) = X := ⟨_, rfl⟩
        rw [hX] at htx
        have hXl : X.data.toList = T.txt := by rw [← hX]
        have hXs : X.size = T.txt.length := by rw [← hXl]; simp
        clear hX ext
        go_wp2_with (first | (go_at_call 38; go_must (refine (htx.out _ (by go_grown)).mono ?_); rintro e w2 ⟨rfl, hb2⟩; (have AW := AV.later hb2); (have o0 := AW.cell 0); (have o6 := AW.cell 6); (have o7 := AW.cell 7); (have zo := AW.lt); simp at o0 o6 o7) | (go_at_call 27; fail))
        have hB2 : Below w.heap.size w w2 := hBa.trans (hb2.mono hBa.size)
        have hit := Tryz.strconv_Itoa o.n (by omega) (by omega) w2 ((hr.below hB2).1)
        obtain ⟨I, hI⟩ : ∃ I : ByteArray, (⟨(Lib.itoa o.n).toArray⟩ : ByteArray) = I := ⟨_, rfl⟩
        rw [hI] at hit
        have hIl : I.data.toList = Lib.itoa o.n := by rw [← hI]
        have hIs : I.size ≤ 2 := by
          have q : I.size = (Lib.itoa o.n).length := by rw [← hIl]; simp
          rw [q]; exact itoa_few hn.1 (by omega)
        obtain ⟨N1, hN1⟩ : ∃ N1 : ByteArray, N1.data.toList = I.data.toList ++ (⟨#[32, 48, 32, 111, 98, 106]⟩ : ByteArray).data.toList := ⟨⟨(I.data.toList ++ [32, 48, 32, 111, 98, 106]).toArray⟩, by simp⟩
        have zN1 : N1.size = I.size + 6 := by have := congrArg List.length hN1; simpa using this
        have hadd1 := fun (w : World) => addF (a := I) (b := ⟨#[32, 48, 32, 111, 98, 106]⟩) (c := N1) (by omega) (by decide) hN1 w
        clear hI
        go_at_call 27
        refine hit.mono ?_
        rintro e w3 ⟨rfl, kk, oo, hw3⟩
        have hb3 : Below w2.heap.size w2 w3 := by rw [hw3]; exact below_grow w2 kk oo
        have hB3 : Below w.heap.size w w3 := hB2.trans (hb3.mono hB2.size)
        have AX := AW.later hb3
        clear hw3 hit o0 o6 o7 zo
        go_wp2_with (go_at_call 39; fail)
        obtain ⟨L1, hL1⟩ : ∃ L1 : ByteArray, L1.data.toList = linesL ([N1, X].map (·.data.toList)) := ⟨⟨(linesL ([N1, X].map (·.data.toList))).toArray⟩, by simp⟩
        have eL1 : L1.data.toList = N1.data.toList ++ 10 :: (X.data.toList ++ [10]) := by rw [hL1]; simp [linesL, Lib.join, List.intercalate]
        have zL1 : L1.size = N1.size + X.size + 2 := by have := congrArg List.length eL1; simp at this; omega
        have hln1 := lines_new [N1, X] 2 _ L1 w3 rfl rfl (by simp) (by simp [Lib.join, List.intercalate]; omega) hL1
        go_at_call 39
        refine hln1.mono ?_
        rintro e w4 ⟨rfl, hb4⟩
        have hB4 : Below w.heap.size w w4 := hB3.trans (hb4.mono hB3.size)
        have AY := AX.later hb4
        have o6 := AY.cell 6
        have o7 := AY.cell 7
        have zo := AY.lt
        simp at o6 o7
        clear hln1 hL1 hadd1
        have HTX := hid (show S0 = ⟨(obT o).toArray⟩ by rw [← HS0.out, if_pos (by rw [HFF.out, HF2.out]; exact hfT)])
        have HF0 := hid (show F = 0 by rw [HF2.out, hfT])
        have hEn : ∀ (W : World), Calls Tryz.prog 39 #[.slice (some ⟨W.heap.size, 0, none⟩) 1 1] (W.alloc (.cells #[.string ⟨#[101, 110, 100, 111, 98, 106]⟩] 9)) fun e w' => e = .returned (.string ⟨#[101, 110, 100, 111, 98, 106, 10]⟩) ∧ Below W.heap.size W w' := fun W => lines_new [⟨#[101, 110, 100, 111, 98, 106]⟩] 1 _ ⟨#[101, 110, 100, 111, 98, 106, 10]⟩ W rfl rfl (by decide) (by decide) (by rfl)
        cases hst : o.st
        · rw [hst] at o6
          obtain ⟨S1, hS1⟩ : ∃ S1 : ByteArray, S1.data.toList = L1.data.toList ++ (⟨#[101, 110, 100, 111, 98, 106, 10]⟩ : ByteArray).data.toList := ⟨⟨(L1.data.toList ++ [101, 110, 100, 111, 98, 106, 10]).toArray⟩, by simp⟩
          have hadd2 := fun (w : World) => addF (a := L1) (b := ⟨#[101, 110, 100, 111, 98, 106, 10]⟩) (c := S1) (by omega) (by decide) hS1 w
          have HS1 := hid (show S1 = S0 by
            rw [HTX.out]; apply ByteArray.ext; apply Array.toList_inj.1
            rw [hS1, eL1, hN1, hIl, hXl, HTT.out, hst]; simp [objW, endW])
          clear hS1 eL1
          go_wp2_with (go_at_call 39; go_must (refine (hEn _).mono ?_); rintro e w5 ⟨rfl, hb5⟩)
          go_ret2
          rw [HF0.out, errN_0, ← HS1.out]
          exact ⟨rfl, hB4.trans (hb5.mono hB4.size)⟩
        · rw [hst] at o6
          obtain ⟨L2, hL2⟩ : ∃ L2 : ByteArray, L2.data.toList = linesL ([(⟨#[115, 116, 114, 101, 97, 109]⟩ : ByteArray), o.dt, ⟨#[101, 110, 100, 115, 116, 114, 101, 97, 109]⟩].map (·.data.toList)) := ⟨⟨(linesL ([(⟨#[115, 116, 114, 101, 97, 109]⟩ : ByteArray), o.dt, ⟨#[101, 110, 100, 115, 116, 114, 101, 97, 109]⟩].map (·.data.toList))).toArray⟩, by simp⟩
          have eL2 : L2.data.toList = [115, 116, 114, 101, 97, 109] ++ 10 :: (o.dt.data.toList ++ 10 :: ([101, 110, 100, 115, 116, 114, 101, 97, 109] ++ [10])) := by rw [hL2]; simp [linesL, Lib.join, List.intercalate]
          have zL2 : L2.size = o.dt.size + 18 := by have := congrArg List.length eL2; simp at this; omega
          have hln2 := fun (W : World) => lines_new [(⟨#[115, 116, 114, 101, 97, 109]⟩ : ByteArray), o.dt, ⟨#[101, 110, 100, 115, 116, 114, 101, 97, 109]⟩] 3 _ L2 W rfl rfl (by simp) (by simp [Lib.join, List.intercalate]; omega) hL2
          simp only [List.map_cons, List.map_nil] at hln2
          obtain ⟨S1, hS1⟩ : ∃ S1 : ByteArray, S1.data.toList = L1.data.toList ++ L2.data.toList := ⟨⟨(L1.data.toList ++ L2.data.toList).toArray⟩, by simp⟩
          have zS1 : S1.size = L1.size + L2.size := by have := congrArg List.length hS1; simpa using this
          have hadd2 := fun (w : World) => addF (a := L1) (b := L2) (c := S1) (by omega) (by omega) hS1 w
          obtain ⟨S2, hS2⟩ : ∃ S2 : ByteArray, S2.data.toList = S1.data.toList ++ (⟨#[101, 110, 100, 111, 98, 106, 10]⟩ : ByteArray).data.toList := ⟨⟨(S1.data.toList ++ [101, 110, 100, 111, 98, 106, 10]).toArray⟩, by simp⟩
          have hadd3 := fun (w : World) => addF (a := S1) (b := ⟨#[101, 110, 100, 111, 98, 106, 10]⟩) (c := S2) (by omega) (by decide) hS2 w
          have HS1 := hid (show S2 = S0 by
            rw [HTX.out]; apply ByteArray.ext; apply Array.toList_inj.1
            rw [hS2, hS1, eL1, eL2, hN1, hIl, hXl, HTT.out, hst]; simp [objW, endW, streamW, endsW])
          clear hS1 hS2 eL1 eL2 hL2
          go_wp2_with (go_at_call 39; fail)
          go_at_call 39
          refine (hln2 _).mono ?_
          rintro e w5 ⟨rfl, hb5⟩
          have hB5 : Below w.heap.size w w5 := hB4.trans (hb5.mono hB4.size)
          go_wp2_with (go_at_call 39; go_must (refine (hEn _).mono ?_); rintro e w6 ⟨rfl, hb6⟩)
          go_ret2
          rw [HF0.out, errN_0, ← HS1.out]
          exact ⟨rfl, hB5.trans (hb6.mono hB5.size)⟩
      · have HE := hid hfT
        have ext : textOf T = ⟨#[]⟩ := by unfold textOf; rw [if_neg hfT]
        have hep := errN_pos hfT
        unfold errV at hep
        have HEP := hid hep
        rw [ext, hep] at htx
        clear hep hfT ext
        go_wp2_with (go_at_call 38; go_must (refine (htx.out _ (by go_grown)).mono ?_); rintro e w2 ⟨rfl, hb2⟩)
        go_ret2
        rw [HF2.out, HEP.out, show S0 = ⟨#[]⟩ by rw [← HS0.out, if_neg (by rw [HFF.out, HF2.out]; exact HE.out)]]
        exact ⟨rfl, hBa.trans (hb2.mono hBa.size)⟩
    · rw [hev]
      have HE := hid (show F = E by rw [HF.out, if_pos hE])
      have HEV := hid hev
      have HX := hid hE
      clear hE hev
      go_wp2
      go_ret2
      rw [HE.out, HEV.out, show S0 = ⟨#[]⟩ by rw [← HS0.out, if_neg (by rw [HFF.out, HE.out]; exact HX.out)]]
      exact ⟨rfl, hB1.alloc hB1.size _⟩
  · have hmb := fun (w : World) => mayBe_is o.n w (decide_eq_false hn)
    have e0 : obF o = 1 := by unfold obF; rw [if_neg hn]
    rw [e0]
    obtain ⟨e', rfl⟩ := hv.inv
    obtain ⟨al, af, cl, cf, rfl, hsz, _⟩ := hv
    unfold obC
    simp only [List.cons_append, List.nil_append]
    go_enter Tryz.func36, Tryz.ntmps36
    go_wp2_with (go_at_call 15; refine (hmb _).mono ?_; rintro e w1 ⟨rfl, hw1⟩; rw [hw1]; clear hw1 w1)
    go_ret2
    exact ⟨rfl, by go_grown⟩
end Go.Proofs.YtflcibmjblioaaaGreatDoor
