/-
  Joined: Vw, Vx, Zs.
-/
import Derived.Test.YtddoigjjgcefkaaGreatDoorVu
import Derived.Test.YtddoigjjgcefkaaGreatDoorRz
import Derived.Test.YtddoigjjgcefkaaGreatDoorPj
import Derived.Test.YtddoigjjgcefkaaGreatDoorVr
import Derived.Test.YtddoigjjgcefkaaGreatDoorZq

/-
  The program's own text of a value: all of it.
-/
namespace Go.Proofs.YtddoigjjgcefkaaGreatDoor
open Go.RowKit
set_option maxRecDepth 100000

theorem appendInt_says {m : Int} {w0 : World} (hr : Rdy m w0) (n : Nat) (hn : n < 100) (B : Nat) (sv : Value) (xs : List UInt8) (w : World) (hb0 : Below w0.heap.size w0 w) (hB0 : w0.heap.size ≤ B) (hB : B ≤ w.heap.size) (hown : Own8 w B sv xs) (hlim : xs.length ≤ 100000000) :
    Calls Tryz.prog 62 #[sv, .int .i64 n, .int .i64 10] w fun e w' => ∃ v', e = .returned v' ∧ Own8 w' B v' (xs ++ Lib.decDigits n) ∧ Kept8 B w w' := by
  refine (Tryz.strconv_AppendInt_10 B xs.length n (by omega) (by omega) sv (xs.map byteV) w hown hB (by omega) (tabB hr hb0 hB0)).mono ?_
  rintro e w' ⟨v', rfl, h1, h2, h3⟩
  refine ⟨v', rfl, ?_, h2, h3⟩
  rw [Lib.itoa_nonneg] at h1
  unfold Own8
  rw [List.length_append, List.map_append]
  exact h1

set_option maxHeartbeats 1000000 in
theorem addText_step {m : Int} {w0 : World} {d : Nat} (hr : Rdy m w0) (ih : TextOk w0 d) : TextOk w0 (d + 1) := by
  intro v cs w B sv xs hv hsh hb0 hB0 hB hown hlim
  obtain ⟨al, af, cl, cf, rfl, ⟨hs, hl, hf⟩, hL, hF⟩ := hv
  have ho := (shp_eq v).1 hsh
  have hbe := bulk_eq' v
  have HTX := hid (txt_eq v)
  have hs200 := own_s ho.1
  have HO := hid ho
  have HL := hid hL
  have HF := hid hF
  have HSH := hid (And.intro ((shpL_iff v.l).1 ho.2.1) ((shpF_iff v.f).1 ho.2.2))
  have HB0 := hid hb0
  clear hL hF hsh ho hb0
  have k1 : ∀ o, Kept8 B w (w.alloc o) := fun o => (Kept8.refl B w).alloc hB o
  have HK1 := hid k1
  clear k1
  have HBA := hid (fun o => HB0.out.trans (((Below.refl _ _).alloc (Nat.le_refl _) o).mono HB0.out.size))
  by_cases hk0 : v.k = 0
  · go_enter Tryz.func30, Tryz.ntmps30
    go_wp2_with (at_builtin; refine wpApp8s rfl (.tmp 11) _ rfl B _ xs rfl (hown.alloc _) _ rfl [110, 117, 108, 108] rfl (by simp [ByteArray.size]; omega) (by simp; omega) ?_)
    intro v1 w1 hown1 hk1
    go_wp2
    go_ret
    exact ⟨_, rfl, by rw [HTX.out]; simpa [hk0] using hown1, (HK1.out _).trans hk1⟩
  by_cases hk1 : v.k = 1
  · go_enter Tryz.func30, Tryz.ntmps30
    by_cases hn1 : v.n = 1
    all_goals
      go_wp2_with (go_at_call 56; refine (appendBool _ B _ xs _ (hown.alloc _) (by simp; omega) (by omega)).mono ?_; rintro e w1 ⟨v1, rfl, hown1, hkk⟩)
      go_ret
      exact ⟨_, rfl, by rw [HTX.out]; simpa [hk1, hn1] using hown1, (HK1.out _).trans hkk⟩
  by_cases hk2 : v.k = 2
  · have hok : okF v.n = true := ((own2 hk2).1 HO.out.1).1
    have hfl := flt_ok hok
    have HOK := hid hok
    have htl := txtB_len v.n
    clear hok
    go_enter Tryz.func30, Tryz.ntmps30
    go_wp2_with (first
      | (go_at_call 57; refine (text_any m v.n _ (hr.below (HBA.out _))).mono ?_; rw [hfl, errN_0]; rintro e w1 ⟨rfl, hbx, _⟩; have hown1 := (hown.alloc _).later hbx; have hs1 := hbx.size; simp at hs1; have HKX := hid ((HK1.out _).trans (Kept8.of_below (B := B) hbx (by simp; omega))); clear hbx)
      | (at_builtin; refine wpApp8s rfl (.tmp 28) (.tmp 29) rfl B _ xs rfl hown1 _ rfl _ rfl (by simp at htl; omega) (by omega) ?_))
    intro v2 w2 hown2 hk2'
    go_wp2
    go_ret
    exact ⟨_, rfl, by rw [HTX.out]; simpa [hk2] using hown2, HKX.out.trans hk2'⟩
  by_cases hk3 : v.k = 3
  · go_enter Tryz.func30, Tryz.ntmps30
    go_wp2_with (go_at_call 58; refine (addString_says v.s B _ xs _ (by omega) (hown.alloc _) (by simp; omega) (by omega)).mono ?_; rintro e w1 ⟨v1, rfl, hown1, hkk⟩)
    go_ret
    exact ⟨_, rfl, by rw [HTX.out]; simpa [hk3] using hown1, (HK1.out _).trans hkk⟩
  by_cases hk4 : v.k = 4
  · go_enter Tryz.func30, Tryz.ntmps30
    go_wp2_with (go_at_call 59; refine (addName_says v.s B _ xs _ (by omega) (hown.alloc _) (by simp; omega) (by omega)).mono ?_; rintro e w1 ⟨v1, rfl, hown1, hkk⟩)
    go_ret
    exact ⟨_, rfl, by rw [HTX.out]; simpa [hk4] using hown1, (HK1.out _).trans (hkk.kept (hown.alloc _) (by simp; omega))⟩
  by_cases hk5 : v.k = 5
  · have HC := hid (fun w1 h1 h2 h3 => addList_says ih v.l al cl w1 B sv xs hl HL.out HSH.out.1 h1 hB0 h2 h3 (by omega))
    go_enter Tryz.func30, Tryz.ntmps30
    go_wp2_with (go_at_call 60; refine (HC.out _ (HBA.out _) (by simp; omega) (hown.alloc _)).mono ?_; rintro e w1 ⟨v1, rfl, hown1, hkk⟩)
    go_ret
    exact ⟨_, rfl, by rw [HTX.out]; simpa [hk5] using hown1, (HK1.out _).trans hkk⟩
  by_cases hk6 : v.k = 6
  · have hN := own_names HO.out.1
    have HC := hid (fun w1 h1 h2 h3 => addDict_says ih v.f af cf w1 B sv xs hf HF.out (fun i q hq => ⟨by have := nmOk_sizeV (hN i q hq).1; omega, HSH.out.2 i q hq⟩) h1 hB0 h2 h3 (by omega))
    clear hN
    go_enter Tryz.func30, Tryz.ntmps30
    go_wp2_with (go_at_call 61; refine (HC.out _ (HBA.out _) (by simp; omega) (hown.alloc _)).mono ?_; rintro e w1 ⟨v1, rfl, hown1, hkk⟩)
    go_ret
    exact ⟨_, rfl, by rw [HTX.out]; simpa [hk6] using hown1, (HK1.out _).trans hkk⟩
  have hk7 : v.k = 7 := by
    rcases HO.out.1 with h | h | h | h | h | h | h | h <;> omega
  have hn := (own7 hk7).1 HO.out.1
  obtain ⟨n, hn0⟩ : ∃ n : Nat, v.n = n := ⟨v.n.toNat, by omega⟩
  have hn60 : n ≤ 60 := by omega
  have hl2 := dec_small n (by omega)
  have HTX7 := hid (show v.txt = Lib.decDigits n ++ [32, 48, 32, 82] by rw [HTX.out]; simp [hk7, hn0]; rw [Nat.mod_eq_of_lt (by omega)])
  clear hn
  go_enter Tryz.func30, Tryz.ntmps30
  go_wp2_with (first
    | (go_at_call 62; refine (appendInt_says hr n (by omega) B _ xs _ (HBA.out _) hB0 (by simp; omega) (hown.alloc _) (by omega)).mono ?_; rintro e w1 ⟨v1, rfl, hown1, hkk⟩; have hs1 := hkk.size; simp at hs1; have HKX := hid ((HK1.out _).trans hkk); clear hkk)
    | (at_builtin; refine wpApp8s rfl (.tmp 58) _ rfl B _ (xs ++ Lib.decDigits n) rfl hown1 _ rfl [32, 48, 32, 82] rfl (by simp [ByteArray.size]; omega) (by omega) ?_))
  intro v2 w2 hown2 hk2'
  go_wp2
  go_ret
  exact ⟨_, rfl, by rw [HTX7.out]; simpa using hown2, HKX.out.trans hk2'⟩
theorem addText_says {m : Int} {w0 : World} (hr : Rdy m w0) (d : Nat) : TextOk w0 d := by
  induction d with
  | zero => intro v cs w B sv xs h; exact h.elim
  | succ d ih => exact addText_step hr ih
end Go.Proofs.YtddoigjjgcefkaaGreatDoor

/-
  The text of a value, or what is wrong with it.
-/
namespace Go.Proofs.YtddoigjjgcefkaaGreatDoor
open Go.RowKit
set_option maxRecDepth 100000

noncomputable def textOf (v : V) : ByteArray := if faultV v = 0 then ⟨v.txt.toArray⟩ else ⟨#[]⟩
theorem fault_cases (v : V) : faultV v = 0 ∧ v.Shp ∧ v.cnt ≤ 300 ∨ faultV v = 2 ∨ faultV v = 3 := by
  by_cases h : 300 < v.cnt ∨ 8 < v.dep
  · exact .inr (.inl (fault_many h))
  · by_cases h' : v.Shp
    · exact .inl ⟨fault_none h h', h', by omega⟩
    · exact .inr (.inr (fault_shape h h'))
set_option maxHeartbeats 400000 in
theorem vText_bad {d : Nat} {v : V} {cs : List Value} {w : World} (k : Int) (hk : k = 2 ∨ k = 3) (hv : RepN d w v cs) (hc : v.cnt ≤ 1048576) (hf : faultV v = k) :
    Calls Tryz.prog 19 #[.agg cs.toArray] w fun e w' => e = .returned (.tuple #[.string ⟨#[]⟩, errN k]) ∧ Below w.heap.size w w' := by
  obtain ⟨e, rfl⟩ := hv.inv
  have H := hid (fun w1 hb => check_says (w := w1) (hv.later hb) hc)
  rw [hf] at H
  clear hf
  obtain ⟨al, af, cl, cf, rfl, _⟩ := hv
  have he : errN k = .iface 44 (.int .i64 k) := by rw [errN_pos (by omega)]; rfl
  rw [he] at H ⊢
  clear he
  go_enter Tryz.func19, Tryz.ntmps19
  go_wp2_with (go_at_call 23; refine (H.out _ (by go_grown)).mono ?_; rintro e w1 ⟨rfl, hb1⟩)
  go_ret2
  exact ⟨rfl, Below.trans (by go_grown) (hb1.mono (by simp))⟩
set_option maxHeartbeats 400000 in
theorem vText_ok {m : Int} {d : Nat} {v : V} {cs : List Value} {w : World} (hr : Rdy m w) (hv : RepN d w v cs) (hsh : v.Shp) (hc : v.cnt ≤ 300) (hf : faultV v = 0) :
    Calls Tryz.prog 19 #[.agg cs.toArray] w fun e w' => e = .returned (.tuple #[.string ⟨v.txt.toArray⟩, .nilIface]) ∧ Below w.heap.size w w' := by
  obtain ⟨e, rfl⟩ := hv.inv
  have hbk := bulk_shp v hsh
  have H := hid (fun w1 hb => check_says (w := w1) (hv.later hb) (by omega))
  have H2 := hid (fun w1 hb => addText_says hr (e + 1) v cs w1 w1.heap.size (.slice none 0 0) [] hv hsh hb hb.size (Nat.le_refl _) (Own8.nil _ _) (by simp; omega))
  rw [hf, errN_0] at H
  clear hf
  obtain ⟨al, af, cl, cf, rfl, _⟩ := hv
  go_enter Tryz.func19, Tryz.ntmps19
  go_wp2_with (first
    | (go_at_call 23; refine (H.out _ (by go_grown)).mono ?_; rintro e w1 ⟨rfl, hb1⟩; have hA := (At.new w _ _ rfl).later hb1; have mc := hA.cell; have mz := hA.lt; have hb2 : Below w.heap.size w w1 := Below.trans (by go_grown) (hb1.mono (by simp)); clear hb1)
    | (go_at_call 30; refine (H2.out _ hb2).mono ?_; rintro e w2 ⟨v2, rfl, hown2, hk2⟩; have hcv := own8_conv hown2; simp at hcv))
  go_ret2
  exact ⟨rfl, hb2.trans (hk2.below.mono hb2.size)⟩
theorem vText_says {m : Int} {d : Nat} {v : V} {cs : List Value} {w : World} (hr : Rdy m w) (hv : RepN d w v cs) (hc : v.cnt ≤ 1048576) :
    Calls Tryz.prog 19 #[.agg cs.toArray] w fun e w' => e = .returned (.tuple #[.string (textOf v), errN (faultV v)]) ∧ Below w.heap.size w w' := by
  unfold textOf
  rcases fault_cases v with ⟨h, h1, h2⟩ | h | h
  · rw [if_pos h, h, errN_0]; exact vText_ok hr hv h1 h2 h
  · rw [if_neg (by omega), h]; exact vText_bad 2 (.inl rfl) hv hc h
  · rw [if_neg (by omega), h]; exact vText_bad 3 (.inr rfl) hv hc h
end Go.Proofs.YtddoigjjgcefkaaGreatDoor

/-
  The law of texts.
-/
namespace Go.Proofs.YtddoigjjgcefkaaGreatDoor
open Go.RowKit
set_option maxRecDepth 100000

theorem LightValue_heavy {d : Nat} {v : V} {cs : List Value} {w : World} (hv : RepN d w v cs) (hbk : v.bulk ≤ 1048576) :
    Calls Tryz.prog 20 #[.agg cs.toArray] w fun e w' => (e = .returned (.bool false) ∨ e = .returned (.bool true) ∧ v.bulk + 1 ≤ 6000 + 2 * v.cnt) ∧ Below w.heap.size w w' := by
  obtain ⟨e, rfl⟩ := hv.inv
  have H := hid hv
  obtain ⟨al, af, cl, cf, rfl, _⟩ := hv
  go_enter Tryz.func20, Tryz.ntmps20
  go_wp2_with (go_at_call 31; fail)
  go_at_call 31
  refine (heavy_any _ 6000 v _ _ (H.out.later (by go_grown)) hbk).mono ?_
  rintro e w1 ⟨⟨z1, rfl, hz1, hz2⟩, hb1⟩
  have HZ := hid (And.intro hz1 hz2)
  clear hz1 hz2
  by_cases hz : (z1 : Int) ≤ 6000
  · go_wp2_with fail
    go_ret
    have q := HZ.out.2 hz
    exact ⟨.inr ⟨rfl, by omega⟩, Below.trans (by go_grown) (hb1.mono (by simp))⟩
  · go_wp2_with fail
    go_ret
    exact ⟨.inl (by first | rfl | exact ret_bool (decide_eq_false (by omega))), Below.trans (by go_grown) (hb1.mono (by simp))⟩
theorem ans_true {P : Prop} {e : Ending} (h : AnsB e P) (hp : P) : e = .returned (.bool true) := by
  rcases h with ⟨h, _⟩ | ⟨_, hn⟩
  · exact h
  · exact absurd hp hn
theorem ans_false {P : Prop} {e : Ending} (h : AnsB e P) (hp : ¬ P) : e = .returned (.bool false) := by
  rcases h with ⟨_, hn⟩ | ⟨h, _⟩
  · exact absurd hn hp
  · exact h
theorem flag_fault : faultV (V0 1 1 eB) = 0 :=
  fault_none (by rw [cnt_eq, dep_eq]; simp [V0, cntL, cntF, depL, depF]) (by
    rw [shp_eq]
    exact ⟨.inr (.inl ⟨rfl, .inr rfl, rfl, rfl, rfl⟩), by rw [shpL_iff]; simp [V0], by rw [shpF_iff]; simp [V0]⟩)
theorem flag_text : textOf (V0 1 1 eB) = ⟨#[116, 114, 117, 101]⟩ := by
  unfold textOf
  rw [if_pos flag_fault]
  simp [V0, V.txt]
theorem fault_cnt {v : V} (h : faultV v = 0) : v.cnt ≤ 300 ∧ v.Shp := by
  have hb : ¬ (300 < v.cnt ∨ 8 < v.dep) := fun q => by rw [fault_many q] at h; exact absurd h (by decide)
  refine ⟨by omega, ?_⟩
  unfold faultV at h
  rw [if_neg hb] at h
  by_cases q : v.Shp
  · exact q
  · rw [if_neg q] at h; exact absurd h (by decide)
/-- A light value that may be has a text of less than 60000 bytes. -/
theorem light_short {v : V} (h : faultV v = 0) (hl : v.bulk + 1 ≤ 6000 + 2 * v.cnt) : (textOf v).size ≤ 60000 ∧ (textOf v).data.toList = v.txt := by
  obtain ⟨hc, hS⟩ := fault_cnt h
  have q := txt_long v hS
  unfold textOf
  rw [if_pos h]
  refine ⟨?_, by simp⟩
  show v.txt.toArray.size ≤ 60000
  rw [List.size_toArray]
  omega
set_option maxHeartbeats 20000000 in
theorem topValue_any (m : Int) (E : Nat) (v o : V) (cv co : List Value) (w : World) (hG : Gr m w) (hv : RepN (E + 1) w v cv) (ho : RepN (E + 1) w o co) (hbv : v.bulk ≤ 1048576) (hbo : o.bulk ≤ 1048576) :
    Calls Tryz.prog 4 #[.agg cv.toArray, .agg co.toArray] w fun e w' => e = .returned (.bool true) ∧ Below w.heap.size w w' := by
  have hcv : v.cnt ≤ 1048576 := Nat.le_trans (cnt_le_bulk v) hbv
  have hco : o.cnt ≤ 1048576 := Nat.le_trans (cnt_le_bulk o) hbo
  have HV := hid hv
  have HO := hid ho
  obtain ⟨al, af, cl, cf, rfl, _⟩ := hv
  obtain ⟨al2, af2, cl2, cf2, rfl, _⟩ := ho
  go_enter Tryz.func4, Tryz.ntmps4
  go_wp2_with (go_at_call 19; fail)
  go_at_call 19
  refine (vText_says (v := V0 1 1 eB) (cs := [.int .i64 1, .int .i64 1, .string ⟨#[]⟩, .slice none 0 0, .slice none 0 0]) (hG.rdy.below (by go_grown)) (rep_vc 0 _ 1 1 eB (by decide)) (by rw [cnt_eq]; simp [V0, cntL, cntF])).mono ?_
  rw [flag_text, flag_fault, errN_0]
  rintro e1 w1 ⟨rfl, hb1⟩
  have hB1 : Below w.heap.size w w1 := Below.trans (by go_grown) (hb1.mono (by simp; omega))
  have A0 := At.later ((At.new w _ _ rfl).alloc _) hb1
  have A1 := At.later (At.new (w.alloc _) _ _ (by simp) : At _ (w.heap.size + 1) _ _) hb1
  have c0 := A0.cell
  have z0 := A0.lt
  have c1 := A1.cell
  have z1 := A1.lt
  clear hb1
  go_wp2_with (go_at_call 20; fail)
  go_at_call 20
  refine (LightValue_heavy (HV.out.later hB1) hbv).mono ?_
  rintro e2 w2 ⟨he, hb2⟩
  have hB2 := hB1.trans (hb2.mono hB1.size)
  replace A0 := A0.later hb2
  replace A1 := A1.later hb2
  clear c0 z0 c1 z1 hb2 hB1
  have c0 := A0.cell
  have z0 := A0.lt
  have c1 := A1.cell
  have z1 := A1.lt
  rcases he with rfl | ⟨rfl, hlv⟩
  · go_wp2_with fail
    go_ret
    exact ⟨rfl, hB2⟩
  have HLV := hid hlv
  clear hlv
  go_wp2_with (go_at_call 20; fail)
  go_at_call 20
  refine (LightValue_heavy (HO.out.later hB2) hbo).mono ?_
  rintro e3 w3 ⟨he, hb3⟩
  have hB3 := hB2.trans (hb3.mono hB2.size)
  replace A0 := A0.later hb3
  replace A1 := A1.later hb3
  clear c0 z0 c1 z1 hb3 hB2
  have c0 := A0.cell
  have z0 := A0.lt
  have c1 := A1.cell
  have z1 := A1.lt
  rcases he with rfl | ⟨rfl, hlo⟩
  · go_wp2_with fail
    go_ret
    exact ⟨rfl, hB3⟩
  have HLO := hid hlo
  clear hlo
  go_wp2_with (go_at_call 19; fail)
  go_at_call 19
  refine (vText_says (hG.rdy.below hB3) (HV.out.later hB3) hcv).mono ?_
  rintro e4 w4 ⟨rfl, hb4⟩
  have hB4 := hB3.trans (hb4.mono hB3.size)
  replace A0 := A0.later hb4
  replace A1 := A1.later hb4
  clear c0 z0 c1 z1 hb4 hB3
  have c0 := A0.cell
  have z0 := A0.lt
  have c1 := A1.cell
  have z1 := A1.lt
  by_cases hf : faultV v ≠ 0
  · have ht : textOf v = ⟨#[]⟩ := by unfold textOf; rw [if_neg hf]
    rw [ht, errN_pos hf]
    unfold errV
    go_wp2_with fail
    go_ret
    exact ⟨rfl, hB4⟩
  have hf0 : faultV v = 0 := by simpa using hf
  clear hf
  rw [hf0, errN_0]
  obtain ⟨hts, htx⟩ := light_short hf0 HLV.out
  have hp := pV_txt hf0 htx hts
  have HTX := hid htx
  generalize htv : textOf v = tv at *
  have HTV := hid htv
  have HF0 := hid hf0
  clear htv htx hf0
  have hvo := valueOk m tv v tv.size _ (hG.below hB4) (Nat.le_trans hts (by unfold maxLen; omega)) hp
  go_wp2_with (go_at_call 7; fail)
  go_at_call 7
  refine hvo.mono ?_
  rintro e5 w5 ⟨a5, b5, l5, c5, m5, d5, rfl, hb5, H5⟩
  have hb5' := chn hb5 (below_box w5 (.cells #[.int .i64 v.k, .int .i64 v.n, .string v.s, .slice a5 l5 c5, .slice b5 m5 d5] 26))
  have hB5 := chn hB4 hb5'
  have A2 := At.new w5 #[.int .i64 v.k, .int .i64 v.n, .string v.s, .slice a5 l5 c5, .slice b5 m5 d5] 26 rfl
  have HX := hid (H5.out.later (below_box w5 (.cells #[.int .i64 v.k, .int .i64 v.n, .string v.s, .slice a5 l5 c5, .slice b5 m5 d5] 26)))
  replace A0 := A0.later hb5'
  replace A1 := A1.later hb5'
  clear c0 z0 c1 z1 hvo H5
  have c0 := A0.cell
  have z0 := A0.lt
  have c1 := A1.cell
  have z1 := A1.lt
  have hal := valikeSelf (d := E + 9) v [.int .i64 v.k, .int .i64 v.n, .string v.s, .slice a5 l5 c5, .slice b5 m5 d5] _ _ (HX.out.mono (by omega)) ((HV.out.later hB5).mono (by omega)) hcv
  go_wp2_with (go_at_call 21; fail)
  go_at_call 21
  refine hal.mono ?_
  rintro e6 w6 ⟨rfl, hb6⟩
  have hB6 := chn hB5 hb6
  replace A0 := A0.later hb6
  replace A1 := A1.later hb6
  clear c0 z0 c1 z1 hal A2 HX hb5 hb5'
  have c0 := A0.cell
  have z0 := A0.lt
  have c1 := A1.cell
  have z1 := A1.lt
  go_wp2_with (go_at_call 19; fail)
  go_at_call 19
  refine (vText_says (hG.rdy.below hB6) (HO.out.later hB6) hco).mono ?_
  rintro e7 w7 ⟨rfl, hb7⟩
  have hB7 := chn hB6 hb7
  replace A0 := A0.later hb7
  replace A1 := A1.later hb7
  clear c0 z0 c1 z1
  have c0 := A0.cell
  have z0 := A0.lt
  have c1 := A1.cell
  have z1 := A1.lt
  by_cases hf : faultV o ≠ 0
  · rw [errN_pos hf]
    unfold errV
    go_wp2_with fail
    go_ret
    exact ⟨rfl, hB7⟩
  have hf1 : faultV o = 0 := by simpa using hf
  clear hf
  rw [hf1, errN_0]
  obtain ⟨_, hto⟩ := light_short hf1 HLO.out
  have hal := vAlike_says v o _ _ (HV.out.later hB7) (HO.out.later hB7) hcv
  by_cases hvo : v = o
  · have hst : tv = textOf o := by rw [← HTV.out, hvo]
    rw [← hst]
    have HVO := hid hvo
    have HAL := hid hal
    clear hvo hal hst hto hf1 hp
    go_wp2_with (go_at_call 21; fail)
    go_at_call 21
    refine HAL.out.mono ?_
    rintro e8 w8 ⟨ha, hb8⟩
    obtain rfl := ans_true ha HVO.out
    go_wp2_with fail
    go_ret
    exact ⟨rfl, chn hB7 hb8⟩
  · have hst : tv ≠ textOf o := fun q => hvo (txt_inj HF0.out hf1 (by rw [← HTX.out]; simpa using hts) (by rw [← HTX.out, q, hto]))
    generalize textOf o = tt at *
    have hst2 : (tv.toList == tt.toList) = false := beq_eq_false_iff_ne.2 (fun q => hst (by rw [ByteArray.toList_eq, ByteArray.toList_eq] at q; exact Go.WideShapes.bytes_inj q))
    have HVO := hid hvo
    have HAL := hid hal
    clear hvo hal hto hf1 hp
    go_wp2_with (go_at_call 21; fail)
    go_at_call 21
    refine HAL.out.mono ?_
    rintro e8 w8 ⟨ha, hb8⟩
    obtain rfl := ans_false ha HVO.out
    go_wp2_with fail
    go_ret
    exact ⟨by first | rfl | (simp [hst2]; done), chn hB7 hb8⟩
end Go.Proofs.YtddoigjjgcefkaaGreatDoor
