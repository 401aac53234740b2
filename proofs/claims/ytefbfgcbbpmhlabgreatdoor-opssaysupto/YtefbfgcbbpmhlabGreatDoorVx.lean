/-
  Joined: Vw, Vx.
-/
import Derived.Test.YtefbfgcbbpmhlabGreatDoorVu
import Derived.Test.YtefbfgcbbpmhlabGreatDoorVl

/-
  The program's own text of a value: all of it.
-/
namespace Go.Proofs.YtefbfgcbbpmhlabGreatDoor
open Go.RowKit
set_option maxRecDepth 100000

theorem appendInt_says {m : Int} {w0 : World} (hr : Rdy m w0) (n : Nat) (hn : n < 100) (B : Nat) (sv : Value) (xs : List UInt8) (w : World) (hb0 : Below w0.heap.size w0 w) (hB0 : w0.heap.size ≤ B) (hB : B ≤ w.heap.size) (hown : Own8 w B sv xs) (hlim : xs.length ≤ 100000000) :
    Calls Tryz.prog 218 #[sv, .int .i64 n, .int .i64 10] w fun e w' => ∃ v', e = .returned v' ∧ Own8 w' B v' (xs ++ Lib.decDigits n) ∧ Kept8 B w w' := by
  refine (Tryz.strconv_AppendInt_10 B xs.length n (by omega) (by omega) sv (xs.map byteV) w hown hB (by omega) (tabB hr hb0 hB0)).mono ?_
  rintro e w' ⟨v', rfl, h1, h2, h3⟩
  refine ⟨v', rfl, ?_, h2, h3⟩
  rw [Lib.itoa_nonneg] at h1
  unfold Own8
  rw [List.length_append, List.map_append]
  exact h1

set_option maxHeartbeats 1000000 in
theorem addText_step {m : Int} {w0 : World} {d : Nat} (hr : Rdy m w0) (ih : TextOk w0 d) : TextOk w0 (d + 1) := by
  intro v cs w B sv xs hv hsh hb0 hB0 hB hown hlim
  obtain ⟨al, af, cl, cf, rfl, ⟨hs, hl, hf⟩, hL, hF⟩ := hv
  have ho := (shp_eq v).1 hsh
  have hbe := bulk_eq' v
  have HTX := hid (txt_eq v)
  have hs200 := own_s ho.1
  have HO := hid ho
  have HL := hid hL
  have HF := hid hF
  have HSH := hid (And.intro ((shpL_iff v.l).1 ho.2.1) ((shpF_iff v.f).1 ho.2.2))
  have HB0 := hid hb0
  clear hL hF hsh ho hb0
  have k1 : ∀ o, Kept8 B w (w.alloc o) := fun o => (Kept8.refl B w).alloc hB o
  have HK1 := hid k1
  clear k1
  have HBA := hid (fun o => HB0.out.trans (((Below.refl _ _).alloc (Nat.le_refl _) o).mono HB0.out.size))
  by_cases hk0 : v.k = 0
  · go_enter Tryz.func148, Tryz.ntmps148
    go_wp2_with (at_builtin; refine wpApp8s rfl (.tmp 11) _ rfl B _ xs rfl (hown.alloc _) _ rfl [110, 117, 108, 108] rfl (by simp [ByteArray.size]; omega) (by simp; omega) ?_)
    intro v1 w1 hown1 hk1
    go_wp2
    go_ret
    exact ⟨_, rfl, by rw [HTX.out]; simpa [hk0] using hown1, (HK1.out _).trans hk1⟩
  by_cases hk1 : v.k = 1
  · go_enter Tryz.func148, Tryz.ntmps148
    by_cases hn1 : v.n = 1
    all_goals
      go_wp2_with (go_at_call 212; refine (appendBool _ B _ xs _ (hown.alloc _) (by simp; omega) (by omega)).mono ?_; rintro e w1 ⟨v1, rfl, hown1, hkk⟩)
      go_ret
      exact ⟨_, rfl, by rw [HTX.out]; simpa [hk1, hn1] using hown1, (HK1.out _).trans hkk⟩
  by_cases hk2 : v.k = 2
  · have hok : okF v.n = true := ((own2 hk2).1 HO.out.1).1
    have hfl := flt_ok hok
    have HOK := hid hok
    have htl := txtB_len v.n
    clear hok
    go_enter Tryz.func148, Tryz.ntmps148
    go_wp2_with (first
      | (go_at_call 213; refine (text_any m v.n _ (hr.below (HBA.out _))).mono ?_; rw [hfl, errN_0]; rintro e w1 ⟨rfl, hbx, _⟩; have hown1 := (hown.alloc _).later hbx; have hs1 := hbx.size; simp at hs1; have HKX := hid ((HK1.out _).trans (Kept8.of_below (B := B) hbx (by simp; omega))); clear hbx)
      | (at_builtin; refine wpApp8s rfl (.tmp 28) (.tmp 29) rfl B _ xs rfl hown1 _ rfl _ rfl (by simp at htl; omega) (by omega) ?_))
    intro v2 w2 hown2 hk2'
    go_wp2
    go_ret
    exact ⟨_, rfl, by rw [HTX.out]; simpa [hk2] using hown2, HKX.out.trans hk2'⟩
  by_cases hk3 : v.k = 3
  · go_enter Tryz.func148, Tryz.ntmps148
    go_wp2_with (go_at_call 214; refine (addString_says v.s B _ xs _ (by omega) (hown.alloc _) (by simp; omega) (by omega)).mono ?_; rintro e w1 ⟨v1, rfl, hown1, hkk⟩)
    go_ret
    exact ⟨_, rfl, by rw [HTX.out]; simpa [hk3] using hown1, (HK1.out _).trans hkk⟩
  by_cases hk4 : v.k = 4
  · go_enter Tryz.func148, Tryz.ntmps148
    go_wp2_with (go_at_call 215; refine (addName_says v.s B _ xs _ (by omega) (hown.alloc _) (by simp; omega) (by omega)).mono ?_; rintro e w1 ⟨v1, rfl, hown1, hkk⟩)
    go_ret
    exact ⟨_, rfl, by rw [HTX.out]; simpa [hk4] using hown1, (HK1.out _).trans (hkk.kept (hown.alloc _) (by simp; omega))⟩
  by_cases hk5 : v.k = 5
  · have HC := hid (fun w1 h1 h2 h3 => addList_says ih v.l al cl w1 B sv xs hl HL.out HSH.out.1 h1 hB0 h2 h3 (by omega))
    go_enter Tryz.func148, Tryz.ntmps148
    go_wp2_with (go_at_call 216; refine (HC.out _ (HBA.out _) (by simp; omega) (hown.alloc _)).mono ?_; rintro e w1 ⟨v1, rfl, hown1, hkk⟩)
    go_ret
    exact ⟨_, rfl, by rw [HTX.out]; simpa [hk5] using hown1, (HK1.out _).trans hkk⟩
  by_cases hk6 : v.k = 6
  · have hN := own_names HO.out.1
    have HC := hid (fun w1 h1 h2 h3 => addDict_says ih v.f af cf w1 B sv xs hf HF.out (fun i q hq => ⟨by have := nmOk_sizeV (hN i q hq).1; omega, HSH.out.2 i q hq⟩) h1 hB0 h2 h3 (by omega))
    clear hN
    go_enter Tryz.func148, Tryz.ntmps148
    go_wp2_with (go_at_call 217; refine (HC.out _ (HBA.out _) (by simp; omega) (hown.alloc _)).mono ?_; rintro e w1 ⟨v1, rfl, hown1, hkk⟩)
    go_ret
    exact ⟨_, rfl, by rw [HTX.out]; simpa [hk6] using hown1, (HK1.out _).trans hkk⟩
  have hk7 : v.k = 7 := by
    rcases HO.out.1 with h | h | h | h | h | h | h | h <;> omega
  have hn := (own7 hk7).1 HO.out.1
  obtain ⟨n, hn0⟩ : ∃ n : Nat, v.n = n := ⟨v.n.toNat, by omega⟩
  have hn60 : n ≤ 60 := by omega
  have hl2 := dec_small n (by omega)
  have HTX7 := hid (show v.txt = Lib.decDigits n ++ [32, 48, 32, 82] by rw [HTX.out]; simp [hk7, hn0]; rw [Nat.mod_eq_of_lt (by omega)])
  clear hn
  go_enter Tryz.func148, Tryz.ntmps148
  go_wp2_with (first
    | (go_at_call 218; refine (appendInt_says hr n (by omega) B _ xs _ (HBA.out _) hB0 (by simp; omega) (hown.alloc _) (by omega)).mono ?_; rintro e w1 ⟨v1, rfl, hown1, hkk⟩; have hs1 := hkk.size; simp at hs1; have HKX := hid ((HK1.out _).trans hkk); clear hkk)
    | (at_builtin; refine wpApp8s rfl (.tmp 58) _ rfl B _ (xs ++ Lib.decDigits n) rfl hown1 _ rfl [32, 48, 32, 82] rfl (by simp [ByteArray.size]; omega) (by omega) ?_))
  intro v2 w2 hown2 hk2'
  go_wp2
  go_ret
  exact ⟨_, rfl, by rw [HTX7.out]; simpa using hown2, HKX.out.trans hk2'⟩
theorem addText_says {m : Int} {w0 : World} (hr : Rdy m w0) (d : Nat) : TextOk w0 d := by
  induction d with
  | zero => intro v cs w B sv xs h; exact h.elim
  | succ d ih => exact addText_step hr ih
end Go.Proofs.YtefbfgcbbpmhlabGreatDoor

/-
  The text of a value, or what is wrong with it.
-/
namespace Go.Proofs.YtefbfgcbbpmhlabGreatDoor
open Go.RowKit
set_option maxRecDepth 100000

noncomputable def textOf (v : V) : ByteArray := if faultV v = 0 then ⟨v.txt.toArray⟩ else ⟨#[]⟩
theorem fault_cases (v : V) : faultV v = 0 ∧ v.Shp ∧ v.cnt ≤ 300 ∨ faultV v = 2 ∨ faultV v = 3 := by
  by_cases h : 300 < v.cnt ∨ 8 < v.dep
  · exact .inr (.inl (fault_many h))
  · by_cases h' : v.Shp
    · exact .inl ⟨fault_none h h', h', by omega⟩
    · exact .inr (.inr (fault_shape h h'))
set_option maxHeartbeats 400000 in
theorem vText_bad {d : Nat} {v : V} {cs : List Value} {w : World} (k : Int) (hk : k = 2 ∨ k = 3) (hv : RepN d w v cs) (hc : v.cnt ≤ 1048576) (hf : faultV v = k) :
    Calls Tryz.prog 97 #[.agg cs.toArray] w fun e w' => e = .returned (.tuple #[.string ⟨#[]⟩, errN k]) ∧ Below w.heap.size w w' := by
  obtain ⟨e, rfl⟩ := hv.inv
  have H := hid (fun w1 hb => check_says (w := w1) (hv.later hb) hc)
  rw [hf] at H
  clear hf
  obtain ⟨al, af, cl, cf, rfl, _⟩ := hv
  have he : errN k = .iface 86 (.int .i64 k) := by rw [errN_pos (by omega)]; rfl
  rw [he] at H ⊢
  clear he
  go_enter Tryz.func97, Tryz.ntmps97
  go_wp2_with (go_at_call 141; refine (H.out _ (by go_grown)).mono ?_; rintro e w1 ⟨rfl, hb1⟩)
  go_ret2
  exact ⟨rfl, Below.trans (by go_grown) (hb1.mono (by simp))⟩
set_option maxHeartbeats 400000 in
theorem vText_ok {m : Int} {d : Nat} {v : V} {cs : List Value} {w : World} (hr : Rdy m w) (hv : RepN d w v cs) (hsh : v.Shp) (hc : v.cnt ≤ 300) (hf : faultV v = 0) :
    Calls Tryz.prog 97 #[.agg cs.toArray] w fun e w' => e = .returned (.tuple #[.string ⟨v.txt.toArray⟩, .nilIface]) ∧ Below w.heap.size w w' := by
  obtain ⟨e, rfl⟩ := hv.inv
  have hbk := bulk_shp v hsh
  have H := hid (fun w1 hb => check_says (w := w1) (hv.later hb) (by omega))
  have H2 := hid (fun w1 hb => addText_says hr (e + 1) v cs w1 w1.heap.size (.slice none 0 0) [] hv hsh hb hb.size (Nat.le_refl _) (Own8.nil _ _) (by simp; omega))
  rw [hf, errN_0] at H
  clear hf
  obtain ⟨al, af, cl, cf, rfl, _⟩ := hv
  go_enter Tryz.func97, Tryz.ntmps97
  go_wp2_with (first
    | (go_at_call 141; refine (H.out _ (by go_grown)).mono ?_; rintro e w1 ⟨rfl, hb1⟩; have hA := (At.new w _ _ rfl).later hb1; have mc := hA.cell; have mz := hA.lt; have hb2 : Below w.heap.size w w1 := Below.trans (by go_grown) (hb1.mono (by simp)); clear hb1)
    | (go_at_call 148; refine (H2.out _ hb2).mono ?_; rintro e w2 ⟨v2, rfl, hown2, hk2⟩; have hcv := own8_conv hown2; simp at hcv))
  go_ret2
  exact ⟨rfl, hb2.trans (hk2.below.mono hb2.size)⟩
theorem vText_says {m : Int} {d : Nat} {v : V} {cs : List Value} {w : World} (hr : Rdy m w) (hv : RepN d w v cs) (hc : v.cnt ≤ 1048576) :
    Calls Tryz.prog 97 #[.agg cs.toArray] w fun e w' => e = .returned (.tuple #[.string (textOf v), errN (faultV v)]) ∧ Below w.heap.size w w' := by
  unfold textOf
  rcases fault_cases v with ⟨h, h1, h2⟩ | h | h
  · rw [if_pos h, h, errN_0]; exact vText_ok hr hv h1 h2 h
  · rw [if_neg (by omega), h]; exact vText_bad 2 (.inl rfl) hv hc h
  · rw [if_neg (by omega), h]; exact vText_bad 3 (.inr rfl) hv hc h
end Go.Proofs.YtefbfgcbbpmhlabGreatDoor
