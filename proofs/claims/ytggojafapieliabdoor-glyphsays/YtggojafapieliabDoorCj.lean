/-
  Signs as a text: the answer's.
-/
import Derived.Test.YtggojafapieliabDoorCi
namespace Go.Proofs.YtggojafapieliabDoor
open Go.RowKit
set_option maxRecDepth 100000
attribute [local go_sem ↓] Go.wp_at_zero Go.wp_at_succ

/-- Numbers that lie in a row. -/
def Src64 (w : World) (al : Option Addr) (xs : List Nat) : Prop := ∀ j n : Nat, xs[j]? = some n → ∃ g cur, al = some ⟨g, 0, none⟩ ∧ At w g 3 cur ∧ cur[j]? = some (.int .i64 (n : Int))
theorem Src64.kept {B : Nat} {w w' : World} {al : Option Addr} {xs : List Nat} (h : Src64 w al xs) (hk : Kept8 B w w') : Src64 w' al xs := fun j n hj => by
  obtain ⟨g, cur, e, ha, hc⟩ := h j n hj
  exact ⟨g, cur, e, hk.at (by decide) ha, hc⟩
theorem Own64.src {w : World} {B : Nat} {v : Value} {xs : List Nat} (h : Own64 w B v xs) : ∃ al c, v = .slice al xs.length c ∧ Src64 w al xs := by
  obtain ⟨_, ⟨rfl, h2⟩ | ⟨g, cap, cur, rfl, h2, h3, _, _, _, h7⟩⟩ := h
  · have e : xs = [] := List.eq_nil_of_length_eq_zero h2
    subst e
    exact ⟨none, 0, rfl, fun j y hj => by simp at hj⟩
  · refine ⟨some ⟨g, 0, none⟩, cap, rfl, fun j n hj => ⟨g, cur, rfl, h3, ?_⟩⟩
    have hjl : j < xs.length := (List.getElem?_eq_some_iff.1 hj).1
    have e := congrArg (fun l : List Value => l[j]?) h7
    simp only [Nat.mul_one, List.getElem?_map, hj, Option.map_some] at e
    rw [List.getElem?_take, if_pos hjl] at e
    simpa [intV] using e
theorem txtR_snoc (a : List Nat) (r : Nat) : txtR (a ++ [r]) = txtR a ++ encR r := by rw [txtR_app]; simp [txtR]
set_option maxHeartbeats 2000000 in
theorem signs_says (xs : List Nat) (al : Option Addr) (c : Nat) (w : World) (hl : xs.length ≤ 100000) (hok : ∀ r ∈ xs, okR r) (hsrc : Src64 w al xs) :
    Calls Tryd.prog 39 #[.slice al xs.length c] w fun e w' => e = .returned (.string ⟨(txtR xs).toArray⟩) ∧ Below w.heap.size w w' := by
  have HS := hid hsrc
  have HOK := hid hok
  clear hsrc hok
  go_enter Tryd.func39, Tryd.ntmps39
  go_wp2_with fail
  go_loopw [3, 4] (fun t i wr => ∃ k : Nat, i = .int .i64 k ∧ k ≤ xs.length ∧ Own8 wr w.heap.size t (txtR (xs.take k)) ∧ Kept8 w.heap.size w wr) (fun _ i _ => xs.length - (intOf i).toNat)
  case atStart => exact ⟨0, rfl, Nat.zero_le _, Own8.nil _ _, Kept8.refl _ _⟩
  case round =>
    obtain ⟨k, rfl, hk, hown, hb⟩ := hrel
    have hbs := hb.size
    have htl : (txtR (xs.take k)).length ≤ 400000 := by
      have q := (rns_len (xs.take k)).2
      rw [List.length_take] at q; omega
    generalize hpre : txtR (xs.take k) = pre at *
    have HPR := hid hpre
    clear hpre
    by_cases hlt : k < xs.length
    · have hlt' : (k : Int) < xs.length := by omega
      obtain ⟨g, cur, rfl, hat, hcell⟩ := (HS.out.kept hb) k xs[k] (List.getElem?_eq_getElem hlt)
      have HT := hid (show xs.take (k + 1) = xs.take k ++ [xs[k]] from List.take_succ_eq_append_getElem hlt)
      have hor := HOK.out xs[k] (List.getElem_mem hlt)
      generalize xs[k] = r at *
      have gc := hat.cell k
      rw [hcell] at gc
      have hr1 : (r : Int) ≤ 1114111 := by unfold okR at hor; omega
      clear hor hat hcell
      by_cases c1 : (r : Int) < 128
      · have HE := hid (show encR r = [UInt8.ofNat r] by unfold encR; rw [if_pos (by omega)])
        go_wp2_with (at_builtin; refine wpApp8 rfl (.tmp 40) (.tmp 43) rfl w.heap.size _ pre rfl hown _ [UInt8.ofNat r] 1 1 rfl rfl ?cc (by omega) hbs ?_)
        case cc => simp [byteV]; omega
        intro v2 w2 ho2 hk2
        have hb2 := hb.trans hk2
        have HO := hid ho2
        clear hown hb hk2 ho2
        go_wp2
        go_roundw
        case rel =>
          refine ⟨k + 1, by go_num, by omega, ?_, hb2⟩
          rw [HT.out, txtR_snoc, HPR.out, HE.out]; simpa using HO.out
        case measure => simp [intOf]; omega
      by_cases c2 : (r : Int) < 2048
      · have HE := hid (show encR r = [UInt8.ofNat (192 + r / 64), UInt8.ofNat (128 + r % 64)] by unfold encR; rw [if_neg (by omega), if_pos (by omega)])
        go_wp2_with (at_builtin; refine wpApp8 rfl (.tmp 48) (.tmp 57) rfl w.heap.size _ pre rfl hown _ [UInt8.ofNat (192 + r / 64), UInt8.ofNat (128 + r % 64)] 2 2 rfl rfl ?cc (by omega) hbs ?_)
        case cc => simp [byteV]; omega
        intro v2 w2 ho2 hk2
        have hb2 := hb.trans hk2
        have HO := hid ho2
        clear hown hb hk2 ho2
        go_wp2
        go_roundw
        case rel =>
          refine ⟨k + 1, by go_num, by omega, ?_, hb2⟩
          rw [HT.out, txtR_snoc, HPR.out, HE.out]; simpa using HO.out
        case measure => simp [intOf]; omega
      by_cases c3 : (r : Int) < 65536
      · have HE := hid (show encR r = [UInt8.ofNat (224 + r / 4096), UInt8.ofNat (128 + r / 64 % 64), UInt8.ofNat (128 + r % 64)] by unfold encR; rw [if_neg (by omega), if_neg (by omega), if_pos (by omega)])
        go_wp2_with (at_builtin; refine wpApp8 rfl (.tmp 62) (.tmp 76) rfl w.heap.size _ pre rfl hown _ [UInt8.ofNat (224 + r / 4096), UInt8.ofNat (128 + r / 64 % 64), UInt8.ofNat (128 + r % 64)] 3 3 rfl rfl ?cc (by omega) hbs ?_)
        case cc => simp [byteV]; omega
        intro v2 w2 ho2 hk2
        have hb2 := hb.trans hk2
        have HO := hid ho2
        clear hown hb hk2 ho2
        go_wp2
        go_roundw
        case rel =>
          refine ⟨k + 1, by go_num, by omega, ?_, hb2⟩
          rw [HT.out, txtR_snoc, HPR.out, HE.out]; simpa using HO.out
        case measure => simp [intOf]; omega
      · have HE := hid (show encR r = [UInt8.ofNat (240 + r / 262144), UInt8.ofNat (128 + r / 4096 % 64), UInt8.ofNat (128 + r / 64 % 64), UInt8.ofNat (128 + r % 64)] by unfold encR; rw [if_neg (by omega), if_neg (by omega), if_neg (by omega)])
        go_wp2_with (at_builtin; refine wpApp8 rfl (.tmp 16) (.tmp 35) rfl w.heap.size _ pre rfl hown _ [UInt8.ofNat (240 + r / 262144), UInt8.ofNat (128 + r / 4096 % 64), UInt8.ofNat (128 + r / 64 % 64), UInt8.ofNat (128 + r % 64)] 4 4 rfl rfl ?cc (by omega) hbs ?_)
        case cc => simp [byteV]; omega
        intro v2 w2 ho2 hk2
        have hb2 := hb.trans hk2
        have HO := hid ho2
        clear hown hb hk2 ho2
        go_wp2
        go_roundw
        case rel =>
          refine ⟨k + 1, by go_num, by omega, ?_, hb2⟩
          rw [HT.out, txtR_snoc, HPR.out, HE.out]; simpa using HO.out
        case measure => simp [intOf]; omega
    · have hlt' : ¬ (k : Int) < xs.length := by omega
      have hcv := own8_conv hown
      go_wp2
      go_ret
      refine ⟨?_, hb.below⟩
      have e := HPR.out
      rw [List.take_of_length_le (by omega)] at e
      rw [e]
      rfl
set_option maxHeartbeats 2000000 in
theorem on_says (s : ByteArray) (k : Nat) (w : World) (hs : s.size ≤ 100000) (hk : (k : Int) ≤ 65535) :
    Calls Tryd.prog 56 #[.string s, .int .i64 k] w fun e w' => e = .returned (.tuple #[.string ⟨((goOn s.data.toList k).getD []).toArray⟩, .bool (goOn s.data.toList k).isSome]) ∧ Below w.heap.size w w' := by
  have hr := runes_says s w hs
  cases hrn : rns s.data.toList with
  | none =>
    rw [goOn_bad hrn]
    have HN := hid hrn
    clear hrn
    go_enter Tryd.func56, Tryd.ntmps56
    go_wp2_with (go_at_call 55; fail)
    go_at_call 55
    refine hr.mono ?_
    rintro e w1 ⟨⟨_, rfl⟩ | ⟨rs, v, h1, rfl, ho⟩, hb1⟩
    · go_wp2_with fail
      go_ret2
      exact ⟨rfl, hb1⟩
    · rw [HN.out] at h1; cases h1
  | some rs =>
    obtain ⟨hok, htx⟩ := rns_some _ _ rs (Nat.le_refl _) hrn
    have hrl : rs.length ≤ 100000 := by
      have q := (rns_len rs).1
      rw [← htx] at q
      have : s.data.toList.length = s.size := by simp
      omega
    rcases (show rs = [] ∨ ∃ a r, rs = a ++ [r] by rcases List.eq_nil_or_concat rs with h | ⟨a, r, h⟩
                                                   · exact .inl h
                                                   · exact .inr ⟨a, r, by rw [h, List.concat_eq_append]⟩) with rfl | ⟨a, r, rfl⟩
    · have hg : goOn s.data.toList k = none := by unfold goOn; rw [hrn]; rfl
      rw [hg]
      have HN := hid hrn
      clear hrn
      go_enter Tryd.func56, Tryd.ntmps56
      go_wp2_with (go_at_call 55; fail)
      go_at_call 55
      refine hr.mono ?_
      rintro e w1 ⟨⟨h1, rfl⟩ | ⟨rs, v, h1, rfl, ho⟩, hb1⟩
      · rw [HN.out] at h1; cases h1
      · rw [HN.out] at h1
        injection h1 with h1
        subst h1
        obtain ⟨al, c, rfl, _⟩ := ho.src
        go_wp2_with fail
        go_ret2
        exact ⟨rfl, hb1⟩
    · have hor : okR r := hok r (by simp)
      have hg := goOn_last hrn k
      have HN := hid hrn
      have HOK := hid hok
      have hr2 : (r : Int) ≤ 1114111 := by unfold okR at hor; omega
      have hal : a.length ≤ 99999 := by rw [List.length_append] at hrl; simp at hrl; omega
      clear hrn hok htx hrl
      have HG := hid hg
      clear hg
      have HOR := hid hor
      clear hor
      go_enter Tryd.func56, Tryd.ntmps56
      go_wp2_with (go_at_call 55; fail)
      go_at_call 55
      refine hr.mono ?_
      rintro e w1 ⟨⟨h1, rfl⟩ | ⟨rs, v, h1, rfl, ho⟩, hb1⟩
      · rw [HN.out] at h1; cases h1
      rw [HN.out] at h1
      injection h1 with h1
      subst h1
      have HOW := hid ho
      obtain ⟨al, c, rfl, hsrc⟩ := ho.src
      obtain ⟨g, cur, rfl, hat, hcell⟩ := hsrc a.length r (by simp)
      have gc := hat.cell a.length
      rw [hcell] at gc
      clear hr hcell hsrc ho
      have hlen : ((a ++ [r]).length : Int) = (a.length : Int) + 1 := by simp
      have hlen2 : (a ++ [r]).length = a.length + 1 := by simp
      have hrk : ((r + k : Nat) : Int) = (r : Int) + k := by simp
      by_cases G : okR (r + k) ∧ (r + k < 55296 ∨ 57344 ≤ r)
      · have HGo := HG.out
        rw [if_pos G] at HGo
        have HGO := hid HGo
        have HG1 := hid G.1
        have hor := HOR.out
        have hcells : ∀ (j n : Nat), (a ++ [r])[j]? = some n → w1.cell? ⟨g, j, none⟩ = some (.int .i64 (n : Int)) := fun j n hj => by
          obtain ⟨al', c', e1, hs1⟩ := HOW.out.src
          injection e1 with e1 e2 e3
          obtain ⟨g1, cur1, e4, h4, h5⟩ := hs1 j n hj
          rw [← e1] at e4
          injection e4 with e4
          injection e4 with e4
          subst e4
          rw [h4.cell j, h5]
        have HCE := hid hcells
        have hsz : w.heap.size ≤ w1.heap.size := hb1.size
        rcases G.2 with G2 | G2
        · have t1 : decide ((1114111 : Int) < (r : Int) + k) = false := decide_eq_false (by omega)
          have t2 : decide ((55295 : Int) < (r : Int) + k) = false := decide_eq_false (by omega)
          have t3 : decide ((57344 : Int) ≤ (r : Int) + k) = false := decide_eq_false (by omega)
          have t4 : decide ((r : Int) ≤ 55295) = true := decide_eq_true (by omega)
          clear G G2 HG hor HGo hcells
          go_wp2_with (at_builtin; refine wpApp64 rfl (.const (.slice none 0 0)) (.tmp 50) rfl w.heap.size _ [] rfl (Own64.nil _ _) g (a ++ [r]) (a.length + 1) c rfl (by simp) HCE.out (by simp; omega) hsz ?_)
          intro v2 w2 ho2 hg2
          have hb2 := hb1.trans ((Own64.nil w1 w.heap.size).below hg2 hsz)
          replace ho2 : Own64 w2 w.heap.size v2 (a ++ [r]) := by simpa using ho2
          obtain ⟨_, ⟨_, hz⟩ | ⟨g2, cap, cur2, rfl, hB2, hg2', _, _, hcs, htk⟩⟩ := ho2
          · simp at hz
          have hA2 : At w2 g2 3 cur2 := hg2'
          have hcs2 : a.length < cur2.size := by
            have q := congrArg List.length htk
            simp at q; omega
          have hcell : cur2[a.length]? = some (.int .i64 (r : Int)) := by
            have q := congrArg (fun l : List Value => l[a.length]?) htk
            simp only [Nat.mul_one, List.getElem?_map] at q
            rw [List.getElem?_take, if_pos (by simp)] at q
            simpa [intV] using q
          have c2 := hA2.cell a.length
          rw [hcell] at c2
          have f2 := hA2.free a.length
          have HST := hid (setCell_eq_setRow w2 g2 a.length cur2 3 (0, 0) (.int .i64 ((r : Int) + k)) hg2')
          have HA3 := hid (hA2.setRow (cur2.setIfInBounds a.length (.int .i64 ((r : Int) + k))))
          have HTK := hid htk
          have HB3 := hid (below_setRow hb2 hB2 (cur2.setIfInBounds a.length (.int .i64 ((r : Int) + k))))
          clear hg2 htk hg2' hcs hcell
          go_wp2_with (go_at_call 39; fail)
          go_at_call 39
          have hsg := signs_says (a ++ [r + k]) (some ⟨g2, 0, none⟩) cap (w2.setRow g2 (cur2.setIfInBounds a.length (.int .i64 ((r : Int) + k)))) (by simp; omega) (fun x hx => by
            rcases List.mem_append.1 hx with hx | hx
            · exact HOK.out x (by simp [hx])
            · simp at hx; subst hx; exact HG1.out) (fun j n hj => by
            refine ⟨g2, _, rfl, HA3.out, ?_⟩
            by_cases hja : j = a.length
            · subst hja
              simp at hj
              subst hj
              rw [Array.getElem?_setIfInBounds_self_of_lt hcs2]; simp
            · have hjl : j < a.length := by
                have := (List.getElem?_eq_some_iff.1 hj).1
                simp at this; omega
              rw [Array.getElem?_setIfInBounds_ne (Ne.symm hja)]
              rw [List.getElem?_append_left hjl] at hj
              have q := congrArg (fun l : List Value => l[j]?) HTK.out
              simp only [Nat.mul_one, List.getElem?_map] at q
              rw [List.getElem?_take, if_pos (by simp; omega), List.getElem?_append_left hjl, hj] at q
              simpa [intV] using q)
          rw [← HST.out] at hsg
          have hl3 : (a ++ [r + k]).length = a.length + 1 := by simp
          rw [hl3] at hsg
          refine hsg.mono ?_
          rintro e w4 ⟨rfl, hb4⟩
          go_wp2_with fail
          go_ret2
          refine ⟨?_, ?_⟩
          · rw [HGO.out, txtR_snoc]; rfl
          · rw [HST.out] at hb4
            exact HB3.out.trans (hb4.mono HB3.out.size)
        · have t1 : ¬ (1114111 : Int) < (r : Int) + k := by have := G.1; unfold okR at this; omega
          have t2 : (55295 : Int) < (r : Int) + k := by omega
          have t3 : ¬ (r : Int) + k < 57344 := by omega
          have t4 : ¬ (r : Int) ≤ 55295 := by omega
          clear G G2 HG hor HGo hcells
          go_wp2_with (at_builtin; refine wpApp64 rfl (.const (.slice none 0 0)) (.tmp 50) rfl w.heap.size _ [] rfl (Own64.nil _ _) g (a ++ [r]) (a.length + 1) c rfl (by simp) HCE.out (by simp; omega) hsz ?_)
          intro v2 w2 ho2 hg2
          have hb2 := hb1.trans ((Own64.nil w1 w.heap.size).below hg2 hsz)
          replace ho2 : Own64 w2 w.heap.size v2 (a ++ [r]) := by simpa using ho2
          obtain ⟨_, ⟨_, hz⟩ | ⟨g2, cap, cur2, rfl, hB2, hg2', _, _, hcs, htk⟩⟩ := ho2
          · simp at hz
          have hA2 : At w2 g2 3 cur2 := hg2'
          have hcs2 : a.length < cur2.size := by
            have q := congrArg List.length htk
            simp at q; omega
          have hcell : cur2[a.length]? = some (.int .i64 (r : Int)) := by
            have q := congrArg (fun l : List Value => l[a.length]?) htk
            simp only [Nat.mul_one, List.getElem?_map] at q
            rw [List.getElem?_take, if_pos (by simp)] at q
            simpa [intV] using q
          have c2 := hA2.cell a.length
          rw [hcell] at c2
          have f2 := hA2.free a.length
          have HST := hid (setCell_eq_setRow w2 g2 a.length cur2 3 (0, 0) (.int .i64 ((r : Int) + k)) hg2')
          have HA3 := hid (hA2.setRow (cur2.setIfInBounds a.length (.int .i64 ((r : Int) + k))))
          have HTK := hid htk
          have HB3 := hid (below_setRow hb2 hB2 (cur2.setIfInBounds a.length (.int .i64 ((r : Int) + k))))
          clear hg2 htk hg2' hcs hcell
          go_wp2_with (go_at_call 39; fail)
          go_at_call 39
          have hsg := signs_says (a ++ [r + k]) (some ⟨g2, 0, none⟩) cap (w2.setRow g2 (cur2.setIfInBounds a.length (.int .i64 ((r : Int) + k)))) (by simp; omega) (fun x hx => by
            rcases List.mem_append.1 hx with hx | hx
            · exact HOK.out x (by simp [hx])
            · simp at hx; subst hx; exact HG1.out) (fun j n hj => by
            refine ⟨g2, _, rfl, HA3.out, ?_⟩
            by_cases hja : j = a.length
            · subst hja
              simp at hj
              subst hj
              rw [Array.getElem?_setIfInBounds_self_of_lt hcs2]; simp
            · have hjl : j < a.length := by
                have := (List.getElem?_eq_some_iff.1 hj).1
                simp at this; omega
              rw [Array.getElem?_setIfInBounds_ne (Ne.symm hja)]
              rw [List.getElem?_append_left hjl] at hj
              have q := congrArg (fun l : List Value => l[j]?) HTK.out
              simp only [Nat.mul_one, List.getElem?_map] at q
              rw [List.getElem?_take, if_pos (by simp; omega), List.getElem?_append_left hjl, hj] at q
              simpa [intV] using q)
          rw [← HST.out] at hsg
          have hl3 : (a ++ [r + k]).length = a.length + 1 := by simp
          rw [hl3] at hsg
          refine hsg.mono ?_
          rintro e w4 ⟨rfl, hb4⟩
          go_wp2_with fail
          go_ret2
          refine ⟨?_, ?_⟩
          · rw [HGO.out, txtR_snoc]; rfl
          · rw [HST.out] at hb4
            exact HB3.out.trans (hb4.mono HB3.out.size)
      · have HGo := HG.out
        rw [if_neg G] at HGo
        have HGO := hid HGo
        have HNG := hid G
        clear G HG HGo
        go_wp2_with fail
        all_goals first
          | (go_ret2; exact ⟨by rw [HGO.out]; rfl, hb1⟩)
          | (exfalso; have q := HNG.out; have q2 := HOR.out; unfold okR at q q2; omega)

end Go.Proofs.YtggojafapieliabDoor
