/-
  Filters of the document's answer: several take apart.
-/
import Derived.Test.YtemegkdfenjefaaQz
namespace Go.Proofs.Ytemegkdfenjefaa
open Go.RowKit
set_option maxRecDepth 100000

set_option maxHeartbeats 1000000 in
theorem rTakeAll (a : Option Addr) (c n : Nat) (ns : List ByteArray) (s : ByteArray) (w : World) (hnn : ns.length = n) (hn : n ≤ 100000) (hs : s.size ≤ 100000) (hN : NamesAt w a ns) :
    Calls Try.prog 11 #[.slice a n c, .string s] w fun e w' => e = .returned (outT (takeF ns s.data.toList)) ∧ Below w.heap.size w w' := by
  by_cases hk : chkE ns.length s.size = 0
  · obtain ⟨_, hm, hl, hn8⟩ := makeF_ok (ns := ns) (l := s.data.toList) (by rw [ba_len]; exact hk)
    rw [hm]
    rw [ba_len] at hl
    rw [hnn] at hn8
    clear hm hk
    have HN := hid hN
    have HNN := hid hnn
    clear hN hnn
    have h8 : ¬ (8 : Int) < n := by omega
    have h20 : ¬ (20000 : Int) < s.size := by omega
    generalize hR : tkAll ns s.data.toList = R at *
    have HR0 := hid hR
    clear hR
    go_enter Try.func11, Try.ntmps11
    go_wp2
    go_loopw [1, 6] (fun sv i wr => ∃ (k : Nat) (t : ByteArray), sv = .string t ∧ i = .int .i64 k ∧ k ≤ n ∧ t.size ≤ 20000 ∧ tkAll (ns.drop k) t.data.toList = R ∧ Below w.heap.size w wr) (fun _ i _ => n - (intOf i).toNat)
    case atStart => exact ⟨0, s, rfl, rfl, Nat.zero_le _, hl, HR0.out, Below.refl _ _⟩
    case round =>
      clear HR0
      obtain ⟨k, t, rfl, rfl, hkn, ht, hA, hb⟩ := hrel
      have HA := hid hA
      clear hA
      by_cases hlt : (k : Int) < n
      · obtain ⟨nm, hnm⟩ : ∃ nm, ns[k]? = some nm := ⟨ns[k]'(by have := HNN.out; omega), List.getElem?_eq_getElem _⟩
        obtain ⟨b, off, rfl, hbl, hc⟩ := (HN.out.later hb) _ nm hnm
        have HM := hid (show (if (tkBy nm t.data.toList).1 = 0 then tkAll (ns.drop (k + 1)) (tkBy nm t.data.toList).2 else ((tkBy nm t.data.toList).1, [])) = R by
          have h1 := HA.out
          rw [drop_get ns _ nm hnm, tkAll] at h1; exact h1)
        clear hnm HA
        cases hkw : knownF nm
        · have HKW := hid hkw
          have HRN := hid (show (9, []) = R by
            have e := (mk_unknown hkw t.data.toList).2
            have h1 := HM.out
            rw [e, if_neg (by simp)] at h1; exact h1)
          go_wp2_with (go_at_call 7; refine (rKnown nm _).mono ?_; rintro e w1 ⟨rfl, rfl⟩)
          go_ret2
          rw [← HRN.out]
          exact ⟨rfl, hb⟩
        · have HTK := hid (tk_known hkw t.data.toList)
          have hnn0 := takenL_nn nm t.data.toList
          have HTL := hid (takenL_len nm t.data.toList)
          rw [ba_len] at HTL
          have HTD := hid (fun w => rTaken nm t w (by omega) hkw)
          generalize hr : takenL nm t.data.toList = r at *
          obtain ⟨f, ys⟩ := r
          clear hr
          simp only at hnn0
          by_cases hf : f = 0
          · subst hf
            by_cases hbig : (20000 : Int) < ys.length
            · have HRN := hid (show (2, []) = R by
                have e : tkBy nm t.data.toList = (2, []) := by rw [HTK.out]; unfold fit; rw [if_neg (by simp), if_pos (by simp; omega)]
                have h1 := HM.out
                rw [e, if_neg (by simp)] at h1; exact h1)
              go_wp2_with (first
                | (go_at_call 7; refine (rKnown nm _).mono ?_; rintro e w1 ⟨rfl, rfl⟩)
                | (go_at_call 17; refine (HTD.out _).mono ?_; rintro e w2 ⟨rfl, hb2⟩))
              go_ret2
              rw [← HRN.out]
              exact ⟨rfl, hb.trans (hb2.mono hb.size)⟩
            · have HRN := hid (show tkAll (ns.drop (k + 1)) ys = R by
                have e : tkBy nm t.data.toList = (0, ys) := by rw [HTK.out]; unfold fit; rw [if_neg (by simp), if_neg (by simp; omega)]
                have h1 := HM.out
                rw [e, if_pos rfl] at h1; exact h1)
              go_wp2_with (first
                | (go_at_call 7; refine (rKnown nm _).mono ?_; rintro e w1 ⟨rfl, rfl⟩)
                | (go_at_call 17; refine (HTD.out _).mono ?_; rintro e w2 ⟨rfl, hb2⟩))
              go_roundw
              case rel =>
                refine ⟨k + 1, _, rfl, by go_num, by omega, ?_, HRN.out, hb.trans (hb2.mono hb.size)⟩
                rw [size_of]; omega
              case measure => simp [intOf]; omega
          · have HRN := hid (show (f, []) = R by
              have e : tkBy nm t.data.toList = (f, []) := by rw [HTK.out]; unfold fit; rw [if_pos (by simpa using hf)]
              have h1 := HM.out
              rw [e, if_neg (by simpa using hf)] at h1; exact h1)
            have hf0 : (f == 0) = false := by simpa using hf
            have hfp : 0 < f := by omega
            go_wp2_with (first
              | (go_at_call 7; refine (rKnown nm _).mono ?_; rintro e w1 ⟨rfl, rfl⟩)
              | (go_at_call 17; refine (HTD.out _).mono ?_; rintro e w2 ⟨rfl, hb2⟩))
            go_ret2
            rw [← HRN.out]
            exact ⟨rfl, hb.trans (hb2.mono hb.size)⟩
      · obtain rfl : k = n := by omega
        go_wp2
        go_ret2
        have h1 := HA.out
        rw [← HNN.out, List.drop_of_length_le (Nat.le_refl _)] at h1
        rw [← h1]
        exact ⟨rfl, hb⟩
  · obtain ⟨_, hm, h2⟩ := makeF_chk (ns := ns) (l := s.data.toList) (by rw [ba_len]; exact hk)
    rw [hm]
    have h3 : 8 < n ∨ 20000 < s.size := by
      rw [hnn] at hk; unfold chkE at hk
      by_cases e : 8 < n ∨ 20000 < s.size
      · exact e
      · rw [if_neg e] at hk; exact absurd rfl hk
    clear hk h2 hm
    by_cases h8 : (8 : Int) < n
    · go_enter Try.func11, Try.ntmps11
      go_wp2
      go_ret2
      exact ⟨rfl, Below.refl _ _⟩
    · have h20 : (20000 : Int) < s.size := by omega
      go_enter Try.func11, Try.ntmps11
      go_wp2
      go_ret2
      exact ⟨rfl, Below.refl _ _⟩
end Go.Proofs.Ytemegkdfenjefaa
