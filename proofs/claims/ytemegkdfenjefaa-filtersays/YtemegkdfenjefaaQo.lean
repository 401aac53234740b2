/-
  Filters of the program: Make and Take.
-/
import Derived.Test.YtemegkdfenjefaaQn
namespace Go.Proofs.Ytemegkdfenjefaa
open Go.RowKit
set_option maxRecDepth 100000

/-- Texts of a list, in memory. -/
def NamesAt (w : World) (a : Option Addr) (ns : List ByteArray) : Prop :=
  ∀ (i : Nat) (nm : ByteArray), ns[i]? = some nm → ∃ b off, a = some ⟨b, off, none⟩ ∧ b < w.heap.size ∧ w.cell? ⟨b, off + i, none⟩ = some (.string nm)
theorem NamesAt.later {w w' : World} {a : Option Addr} {ns : List ByteArray} (h : NamesAt w a ns) (hb : Below w.heap.size w w') : NamesAt w' a ns := by
  intro i nm hi
  obtain ⟨b, off, e, hl, hc⟩ := h i nm hi
  exact ⟨b, off, e, Nat.lt_of_lt_of_le hl hb.size, (hb.cell (p := ⟨b, off + i, none⟩) hl).trans hc⟩
theorem mkAll_err : ∀ (j : Nat) (ns : List ByteArray) (l : List UInt8), (mkAll (ns.drop j) l).1 ≠ 0 → (mkAll ns l).1 = (mkAll (ns.drop j) l).1
  | 0, ns, l, h => rfl
  | j + 1, [], l, h => by simp [mkAll] at h
  | j + 1, n :: ns, l, h => by
    rw [List.drop_succ_cons] at h ⊢
    have h1 := mkAll_err j ns l h
    have h2 : (mkAll ns l).1 ≠ 0 := by rw [h1]; exact h
    have e : mkAll (n :: ns) l = ((mkAll ns l).1, []) := by rw [mkAll, if_neg h2]
    rw [e]
    exact h1
theorem makeF_chk {ns : List ByteArray} {l : List UInt8} (h : chkE ns.length l.length ≠ 0) : makeF ns l = (2, []) ∧ takeF ns l = (2, []) ∧ chkE ns.length l.length = 2 := by
  unfold chkE at *
  by_cases e : 8 < ns.length ∨ 20000 < l.length
  · have : chkF ns l = true := by unfold chkF; simp; exact e
    unfold makeF takeF
    rw [if_pos this, if_pos this, if_pos e]; exact ⟨rfl, rfl, rfl⟩
  · rw [if_neg e] at h; exact absurd rfl h
theorem makeF_ok {ns : List ByteArray} {l : List UInt8} (h : chkE ns.length l.length = 0) : makeF ns l = mkAll ns l ∧ takeF ns l = tkAll ns l ∧ l.length ≤ 20000 ∧ ns.length ≤ 8 := by
  unfold chkE at *
  by_cases e : 8 < ns.length ∨ 20000 < l.length
  · rw [if_pos e] at h; cases h
  · have : ¬ chkF ns l = true := by unfold chkF; simp; omega
    unfold makeF takeF
    rw [if_neg this, if_neg this]; exact ⟨rfl, rfl, by omega, by omega⟩
theorem mkAll_bad {ns : List ByteArray} {l : List UInt8} (h : (mkAll ns l).1 ≠ 0) : (mkAll ns l).2 = [] := by
  cases ns with
  | nil => exact absurd rfl h
  | cons n ns =>
    unfold mkAll at *
    by_cases e : (mkAll ns l).1 = 0
    · rw [if_pos e] at h ⊢; exact mkBy_bad h
    · rw [if_neg e]
theorem tkBy_bad {n : ByteArray} {l : List UInt8} (h : (tkBy n l).1 ≠ 0) : (tkBy n l).2 = [] := by
  unfold tkBy at *
  (repeat' split) <;> simp_all only [if_true, if_false] <;> exact fit_bad h
theorem mkOut_ok {r : Int × List UInt8} (h : r.1 = 0) : mkOut r = .tuple #[.string ⟨r.2.toArray⟩, .nilIface] := by unfold mkOut; rw [h]; rfl
theorem mkOut_bad {r : Int × List UInt8} (h : r.1 ≠ 0) : mkOut r = .tuple #[.string ⟨r.2.toArray⟩, .iface 37 (.int .i64 r.1)] := by unfold mkOut; rw [errN_pos h]; rfl
theorem pMakeByOk (n s : ByteArray) (w : World) (hs : s.size ≤ 100000) (h : (mkBy n s.data.toList).1 = 0) :
    Calls Try.prog 14 #[.string n, .string s] w fun e w' => e = .returned (.tuple #[.string ⟨(mkBy n s.data.toList).2.toArray⟩, .nilIface]) ∧ Below w.heap.size w w' := by
  have q := pMakeBy n s w hs; rw [mkOut_ok h] at q; exact q
theorem pMakeByBad (n s : ByteArray) (w : World) (hs : s.size ≤ 100000) (h : (mkBy n s.data.toList).1 ≠ 0) :
    Calls Try.prog 14 #[.string n, .string s] w fun e w' => e = .returned (.tuple #[.string ⟨(mkBy n s.data.toList).2.toArray⟩, .iface 37 (.int .i64 (mkBy n s.data.toList).1)]) ∧ Below w.heap.size w w' := by
  have q := pMakeBy n s w hs; rw [mkOut_bad h] at q; exact q
theorem pTakeByOk (n s : ByteArray) (w : World) (hs : s.size ≤ 100000) (h : (tkBy n s.data.toList).1 = 0) :
    Calls Try.prog 16 #[.string n, .string s] w fun e w' => e = .returned (.tuple #[.string ⟨(tkBy n s.data.toList).2.toArray⟩, .nilIface]) ∧ Below w.heap.size w w' := by
  have q := pTakeBy n s w hs; rw [mkOut_ok h] at q; exact q
theorem pTakeByBad (n s : ByteArray) (w : World) (hs : s.size ≤ 100000) (h : (tkBy n s.data.toList).1 ≠ 0) :
    Calls Try.prog 16 #[.string n, .string s] w fun e w' => e = .returned (.tuple #[.string ⟨(tkBy n s.data.toList).2.toArray⟩, .iface 37 (.int .i64 (tkBy n s.data.toList).1)]) ∧ Below w.heap.size w w' := by
  have q := pTakeBy n s w hs; rw [mkOut_bad h] at q; exact q
theorem pCheckBad (a : Option Addr) (n c : Nat) (s : ByteArray) (w : World) (hn : n ≤ maxLen) (hs : s.size ≤ maxLen) (h : chkE n s.size = 2) :
    Calls Try.prog 13 #[.slice a n c, .string s] w fun e w' => e = .returned (.iface 37 (.int .i64 2)) ∧ w' = w := by
  have q := pCheck a n c s w hn hs; rw [h] at q; exact q
theorem pCheckOk (a : Option Addr) (n c : Nat) (s : ByteArray) (w : World) (hn : n ≤ maxLen) (hs : s.size ≤ maxLen) (h : chkE n s.size = 0) :
    Calls Try.prog 13 #[.slice a n c, .string s] w fun e w' => e = .returned .nilIface ∧ w' = w := by
  have q := pCheck a n c s w hn hs; rw [h] at q; exact q
theorem size_of (l : List UInt8) : (⟨l.toArray⟩ : ByteArray).size = l.length := by simp [ByteArray.size]
theorem drop_get (ns : List ByteArray) (j : Nat) (nm : ByteArray) (h : ns[j]? = some nm) : ns.drop j = nm :: ns.drop (j + 1) := by
  obtain ⟨hl, e⟩ := List.getElem?_eq_some_iff.1 h
  rw [List.drop_eq_getElem_cons hl, e]
set_option maxHeartbeats 1000000 in
theorem pMake (a : Option Addr) (c : Nat) (ns : List ByteArray) (s : ByteArray) (w : World) (hn : ns.length ≤ maxLen) (hs : s.size ≤ maxLen) (hN : NamesAt w a ns) :
    Calls Try.prog 8 #[.slice a ns.length c, .string s] w fun e w' => e = .returned (mkOut (makeF ns s.data.toList)) ∧ Below w.heap.size w w' := by
  have HSZ := hid hs
  have HNZ := hid hn
  have HL := hid (ba_len s)
  by_cases hk : chkE ns.length s.size = 0
  · have HK := hid hk
    obtain ⟨hm, _, hl, hn8⟩ := makeF_ok (ns := ns) (l := s.data.toList) (by rw [ba_len]; exact hk)
    rw [hm]
    rw [ba_len] at hl
    clear hm hk hn hs
    have HN := hid hN
    clear hN
    generalize hnn : ns.length = n at *
    have HNN := hid hnn
    clear hnn
    go_enter Try.func8, Try.ntmps8
    go_wp2_with (go_at_call 13; refine (pCheckOk a n c s _ HNZ.out HSZ.out HK.out).mono ?_; rintro e w1 ⟨rfl, rfl⟩)
    go_loopw [1, 17] (fun sv i wr => ∃ (k : Nat) (t : ByteArray), sv = .string t ∧ i = .int .i64 k ∧ k ≤ n ∧ t.size ≤ 20000 ∧ mkAll (ns.drop (n - k)) s.data.toList = (0, t.data.toList) ∧ Below w1.heap.size w1 wr) (fun _ i _ => n - (intOf i).toNat)
    case atStart => exact ⟨0, s, rfl, rfl, Nat.zero_le _, hl, by rw [← HNN.out, Nat.sub_zero, List.drop_of_length_le (Nat.le_refl _)]; rfl, Below.refl _ _⟩
    case round =>
      obtain ⟨k, t, rfl, rfl, hkn, ht, hA, hb⟩ := hrel
      have HA := hid hA
      clear hA
      by_cases hlt : (k : Int) < n
      · obtain ⟨nm, hnm⟩ : ∃ nm, ns[n - 1 - k]? = some nm := ⟨ns[n - 1 - k]'(by have := HNN.out; omega), List.getElem?_eq_getElem _⟩
        obtain ⟨b, off, rfl, hbl, hc⟩ := (HN.out.later hb) _ nm hnm
        have HD := hid (drop_get ns _ nm hnm)
        rw [show n - 1 - k + 1 = n - k by omega] at HD
        have HM := hid (show mkAll (ns.drop (n - 1 - k)) s.data.toList = mkBy nm t.data.toList by
          rw [HD.out]; unfold mkAll; rw [HA.out, if_pos rfl])
        have hix : ((n : Int) - 1 - (k : Int)).toNat = n - 1 - k := by omega
        have hi0 : (0 : Int) ≤ (n : Int) - 1 - k := by omega
        have hi1 : (n : Int) - 1 - k < n := by omega
        clear hnm
        by_cases hq : (mkBy nm t.data.toList).1 = 0
        · have HQ := hid hq
          have HLN := hid (mkBy_len nm t.data.toList)
          clear hq
          go_wp2_with (go_at_call 14; go_must (refine (pMakeByOk nm t _ (by omega) HQ.out).mono ?_); rintro e w2 ⟨rfl, hb2⟩)
          go_roundw
          case rel =>
            refine ⟨k + 1, _, rfl, by go_num, by omega, ?_, ?_, hb.trans (hb2.mono hb.size)⟩
            · rw [size_of]; exact HLN.out
            · rw [show n - (k + 1) = n - 1 - k by omega, HM.out]
              exact Prod.ext HQ.out rfl
          case measure => simp [intOf]; omega
        · have HQ := hid hq
          have HE := hid (mkAll_err (n - 1 - k) ns s.data.toList (by rw [HM.out]; exact hq))
          clear hq
          go_wp2_with (go_at_call 14; go_must (refine (pMakeByBad nm t _ (by omega) HQ.out).mono ?_); rintro e w2 ⟨rfl, hb2⟩)
          go_ret2
          refine ⟨?_, hb.trans (hb2.mono hb.size)⟩
          have e1 := HE.out
          rw [HM.out] at e1
          have e2 : (mkAll ns s.data.toList).1 ≠ 0 := by rw [e1]; exact HQ.out
          rw [mkOut_bad e2, mkAll_bad e2, e1]; rfl
      · obtain rfl : k = n := by omega
        go_wp2
        go_ret2
        refine ⟨?_, hb⟩
        have h1 := HA.out
        rw [Nat.sub_self] at h1
        rw [show mkAll ns s.data.toList = (0, t.data.toList) from h1]; rfl
  · obtain ⟨hm, _, h2⟩ := makeF_chk (ns := ns) (l := s.data.toList) (by rw [ba_len]; exact hk)
    rw [ba_len] at h2
    rw [hm]
    go_enter Try.func8, Try.ntmps8
    go_wp2_with (go_at_call 13; refine (pCheckBad a ns.length c s _ HNZ.out HSZ.out h2).mono ?_; rintro e w1 ⟨rfl, rfl⟩)
    go_ret2
    exact ⟨rfl, Below.refl _ _⟩
set_option maxHeartbeats 1000000 in
theorem pTake (a : Option Addr) (c : Nat) (ns : List ByteArray) (s : ByteArray) (w : World) (hn : ns.length ≤ maxLen) (hs : s.size ≤ maxLen) (hN : NamesAt w a ns) :
    Calls Try.prog 10 #[.slice a ns.length c, .string s] w fun e w' => e = .returned (mkOut (takeF ns s.data.toList)) ∧ Below w.heap.size w w' := by
  have HSZ := hid hs
  have HNZ := hid hn
  by_cases hk : chkE ns.length s.size = 0
  · have HK := hid hk
    obtain ⟨_, hm, hl, hn8⟩ := makeF_ok (ns := ns) (l := s.data.toList) (by rw [ba_len]; exact hk)
    rw [hm]
    rw [ba_len] at hl
    clear hm hk hn hs
    have HN := hid hN
    clear hN
    generalize hR : tkAll ns s.data.toList = R at *
    have HR0 := hid hR
    clear hR
    generalize hnn : ns.length = n at *
    have HNN := hid hnn
    clear hnn
    go_enter Try.func10, Try.ntmps10
    go_wp2_with (go_at_call 13; refine (pCheckOk a n c s _ HNZ.out HSZ.out HK.out).mono ?_; rintro e w1 ⟨rfl, rfl⟩)
    go_loopw [1, 17] (fun sv i wr => ∃ (k : Nat) (t : ByteArray), sv = .string t ∧ i = .int .i64 k ∧ k ≤ n ∧ t.size ≤ 20000 ∧ tkAll (ns.drop k) t.data.toList = R ∧ Below w1.heap.size w1 wr) (fun _ i _ => n - (intOf i).toNat)
    case atStart => exact ⟨0, s, rfl, rfl, Nat.zero_le _, hl, HR0.out, Below.refl _ _⟩
    case round =>
      clear HR0
      obtain ⟨k, t, rfl, rfl, hkn, ht, hA, hb⟩ := hrel
      have HA := hid hA
      clear hA
      by_cases hlt : (k : Int) < n
      · obtain ⟨nm, hnm⟩ : ∃ nm, ns[k]? = some nm := ⟨ns[k]'(by have := HNN.out; omega), List.getElem?_eq_getElem _⟩
        obtain ⟨b, off, rfl, hbl, hc⟩ := (HN.out.later hb) _ nm hnm
        have HM := hid (show (if (tkBy nm t.data.toList).1 = 0 then tkAll (ns.drop (k + 1)) (tkBy nm t.data.toList).2 else ((tkBy nm t.data.toList).1, [])) = R by
          have h1 := HA.out
          rw [drop_get ns _ nm hnm, tkAll] at h1; exact h1)
        clear hnm HA
        by_cases hq : (tkBy nm t.data.toList).1 = 0
        · have HQ := hid hq
          have HLN := hid (tkBy_len nm t.data.toList)
          clear hq
          go_wp2_with (go_at_call 16; go_must (refine (pTakeByOk nm t _ (by omega) HQ.out).mono ?_); rintro e w2 ⟨rfl, hb2⟩)
          go_roundw
          case rel =>
            refine ⟨k + 1, _, rfl, by go_num, by omega, ?_, ?_, hb.trans (hb2.mono hb.size)⟩
            · rw [size_of]; exact HLN.out
            · have h1 := HM.out
              rw [if_pos HQ.out] at h1
              exact h1
          case measure => simp [intOf]; omega
        · have HQ := hid hq
          clear hq
          go_wp2_with (go_at_call 16; go_must (refine (pTakeByBad nm t _ (by omega) HQ.out).mono ?_); rintro e w2 ⟨rfl, hb2⟩)
          go_ret2
          refine ⟨?_, hb.trans (hb2.mono hb.size)⟩
          have h1 := HM.out
          rw [if_neg HQ.out] at h1
          rw [← h1, mkOut_bad (r := (_, [])) HQ.out]; rfl
      · obtain rfl : k = n := by omega
        go_wp2
        go_ret2
        refine ⟨?_, hb⟩
        have h1 := HA.out
        rw [← HNN.out, List.drop_of_length_le (Nat.le_refl _)] at h1
        rw [← h1]; rfl
  · obtain ⟨_, hm, h2⟩ := makeF_chk (ns := ns) (l := s.data.toList) (by rw [ba_len]; exact hk)
    rw [ba_len] at h2
    rw [hm]
    go_enter Try.func10, Try.ntmps10
    go_wp2_with (go_at_call 13; refine (pCheckBad a ns.length c s _ HNZ.out HSZ.out h2).mono ?_; rintro e w1 ⟨rfl, rfl⟩)
    go_ret2
    exact ⟨rfl, Below.refl _ _⟩
end Go.Proofs.Ytemegkdfenjefaa
