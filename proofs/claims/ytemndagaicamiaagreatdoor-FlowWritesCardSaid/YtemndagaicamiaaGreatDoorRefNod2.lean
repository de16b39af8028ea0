/- The contract of the document's own short. -/
import Derived.Test.YtemndagaicamiaaGreatDoorRefNod1
namespace Go.Proofs.YtemndagaicamiaaGreatDoor
open Go.RowKit Go.Sort
open Nw N8
set_option linter.unusedVariables false
theorem ba_size (l : L8) : (ba l).size = l.length := by simp [ba, ByteArray.size]
theorem rd_slice {w : World} {v : Value} {l : List L8} (h : Rd w v l) : ∃ (a : Option Addr) (cap : Nat), v = .slice a l.length cap ∧ l.length ≤ cap ∧ cap ≤ maxLen := by
  obtain ⟨a, cap, hv, h1, h2, _⟩ := h
  exact ⟨a, cap, hv, h1, h2⟩
theorem rd_at {w : World} {a : Option Addr} {n cap : Nat} {l : List L8} (h : Rd w (.slice a n cap) l) (j : Nat) (hj : j < l.length) :
    ∃ b o, a = some ⟨b, o, none⟩ ∧ b < w.heap.size ∧ w.cell? ⟨b, o + j, none⟩ = some (.string (ba (l[j]'hj))) := by
  obtain ⟨a', cap', hv, h1, h2, h3⟩ := h
  have hAe : a = a' := by injection hv
  subst hAe
  rcases h3 with ⟨h3, _⟩ | ⟨b, o, h4, h5, h6⟩
  · subst h3; cases hj
  · exact ⟨b, o, h4, h5, h6 j hj⟩
theorem Boxed.keys {w0 w : World} {k : Int} {t : L8} {ks : List L8} {ds : List Nd} {c0 c1 c2 c3 : Value} (h : Boxed w0 w (.mk k t ks ds) c0 c1 c2 c3) : Rd w c2 ks := h.2.2.parts.2.2.1
theorem shortL_no : ∀ {ds : List Nd} {j : Nat} (h : j < ds.length), shortT (ds[j]'h) = false → shortL ds = false
  | d :: ds, 0, _, hs => by
    have hs' : shortT d = false := hs
    rw [shortL, hs']; rfl
  | d :: ds, j + 1, h, hs => by
    have hs' : shortT (ds[j]'(Nat.lt_of_succ_lt_succ h)) = false := hs
    rw [shortL, shortL_no _ hs', Bool.and_false]
theorem shortL_all : ∀ {ds : List Nd}, (∀ (j : Nat) (h : j < ds.length), shortT (ds[j]'h) = true) → shortL ds = true
  | [], _ => rfl
  | d :: ds, h => by
    have h0 : shortT d = true := h 0 (Nat.succ_pos _)
    rw [shortL, h0, shortL_all fun j hj => h (j + 1) (Nat.succ_lt_succ hj)]; rfl
theorem keys_no {ks : List L8} {j : Nat} (h : j < ks.length) (hl : 200 < (ks[j]'h).length) : (ks.all fun k => decide (k.length ≤ 200)) = false := by
  rw [Bool.eq_false_iff]
  intro e
  have := of_decide_eq_true (List.all_eq_true.1 e _ (List.getElem_mem h))
  omega
theorem keys_all {ks : List L8} (h : ∀ (j : Nat) (hj : j < ks.length), (ks[j]'hj).length ≤ 200) : (ks.all fun k => decide (k.length ≤ 200)) = true := by
  rw [List.all_eq_true]
  intro k hk
  obtain ⟨j, hj, rfl⟩ := List.mem_iff_getElem.1 hk
  exact decide_eq_true (h j hj)
set_option maxRecDepth 100000 in
set_option maxHeartbeats 4000000 in
theorem Rshort_any (N : Nat) : ∀ (d : Nd), cntT d ≤ N → cntT d ≤ 1099511627776 → ∀ (r : Bool), shortT d = r → ∀ (c0 c1 c2 c3 : Value) (w : World), NdW w d c0 c1 c2 c3 →
    Calls Tryz.prog 13 #[.agg #[c0, c1, c2, c3]] w fun e w' => e = .returned (.bool r) ∧ Below w.heap.size w w' := by
  induction N with
  | zero => intro d h; have := cntT_pos d; omega
  | succ N ih =>
    intro d hN hbig r hr c0 c1 c2 c3 w hd
    cases d with
    | mk k t ks ds =>
      have HB0 := Lib.hid (Boxed.make hd)
      obtain ⟨rfl, rfl, hks, A, cap, rfl, hcap, hm, _, _⟩ := hd.parts
      obtain ⟨a, kcap, rfl, hkc, hkm⟩ := rd_slice hks
      have HIH := Lib.hid ih
      obtain ⟨n, hn⟩ : ∃ n, ds.length = n := ⟨_, rfl⟩
      have HN := Lib.hid hn
      obtain ⟨m, hmm⟩ : ∃ m, ks.length = m := ⟨_, rfl⟩
      have HM := Lib.hid hmm
      have hnl : n ≤ 1099511627776 := by have := cntL_len ds; rw [cntT] at hbig; omega
      have hcnt : 1 + cntL ds ≤ 1099511627776 := by rw [cntT] at hbig; exact hbig
      have hcN : cntL ds ≤ N := by rw [cntT] at hN; omega
      rw [shortT] at hr
      have HR0 := Lib.hid hr
      have HC := Lib.hid hcnt
      have HCN := Lib.hid hcN
      obtain ⟨T, hT⟩ : ∃ T, ba t = T := ⟨_, rfl⟩
      have HTS : Hid (T.size = t.length) := Lib.hid (by rw [← hT]; exact ba_size t)
      rw [hn] at HB0 hcap ⊢
      rw [hmm, hT] at HB0 ⊢
      rw [hmm] at hkc
      unfold maxLen at hkm
      have hm63 : m ≤ 9223372036854775807 := by omega
      clear ih hd hn hcnt hcN hT hN hbig hks hmm hr
      by_cases hlong : (200 : Int) < (T.size : Int)
      · have HE : Hid (r = false) := Lib.hid (by rw [← HR0.out, decide_eq_false (by have := HTS.out; omega : ¬ t.length ≤ 200)]; rfl)
        go_enter Tryz.func13, Tryz.ntmps13
        go_wp2
        go_ret
        exact ⟨ret_b HE.out.symm, HB0.out.1⟩
      have HTL : Hid (decide (t.length ≤ 200) = true) := Lib.hid (decide_eq_true (by have := HTS.out; omega))
      go_enter Tryz.func13, Tryz.ntmps13
      obtain ⟨x0, x1, x2, x3⟩ := HB0.out.2.1.cells
      go_wp2
      go_loop [3] (fun si => ∃ j : Nat, j ≤ m ∧ si = .int .i64 (j : Int) ∧ Hid (∀ (i : Nat) (hi : i < ks.length), i < j → (ks[i]'hi).length ≤ 200)) (fun si => m - (intOf si).toNat)
      case atStart => exact ⟨0, Nat.zero_le _, rfl, Lib.hid fun i _ h => absurd h (Nat.not_lt_zero _)⟩
      case round =>
        obtain ⟨j, hj, rfl, HK⟩ := hrel
        by_cases hlt : j < m
        · have hjl : j < ks.length := by rw [HM.out]; exact hlt
          have hjz : (j : Int) < (m : Int) := by omega
          obtain ⟨b, o, rfl, hb, y0⟩ := rd_at HB0.out.keys j hjl
          obtain ⟨K, hK⟩ : ∃ K, ba (ks[j]'hjl) = K := ⟨_, rfl⟩
          have HKS : Hid (K.size = (ks[j]'hjl).length) := Lib.hid (by rw [← hK]; exact ba_size _)
          rw [hK] at y0
          clear hK
          by_cases hkl : (200 : Int) < (K.size : Int)
          · have HE : Hid (r = false) := Lib.hid (by rw [← HR0.out, keys_no hjl (by have := HKS.out; omega), Bool.and_false, Bool.false_and])
            go_wp2
            go_ret
            exact ⟨ret_b HE.out.symm, HB0.out.1⟩
          · go_wp2
            go_round
            case rel =>
              refine ⟨j + 1, by omega, by go_num, Lib.hid fun i hi hij => ?_⟩
              rcases Nat.lt_succ_iff_lt_or_eq.1 hij with h | rfl
              · exact HK.out i hi h
              · have := HKS.out; omega
            case measure => simp [intOf]; omega
        · obtain rfl : j = m := by omega
          have HKA : Hid ((ks.all fun k => decide (k.length ≤ 200)) = true) := Lib.hid (keys_all fun i hi => HK.out i hi (by rw [← HM.out]; exact hi))
          clear HK
          go_wp2
          clear x0 x1 x2 x3
          go_loopw [4] (fun si wr => ∃ i : Nat, i ≤ n ∧ si = .int .i64 (i : Int) ∧ Hid (Boxed w wr (.mk k t ks ds) (.int .i64 k) (.string T) (.slice a j kcap) (.slice A n cap)) ∧ Hid (∀ (l : Nat) (hl : l < ds.length), l < i → shortT (ds[l]'hl) = true)) (fun si _ => n - (intOf si).toNat)
          case atStart => exact ⟨0, Nat.zero_le _, rfl, HB0, Lib.hid fun i _ h => absurd h (Nat.not_lt_zero _)⟩
          case round =>
            clear HB0
            obtain ⟨i, hi, rfl, HB, HK⟩ := hrel
            obtain ⟨x0, x1, x2, x3⟩ := HB.out.2.1.cells
            by_cases hin : i < n
            · have hil : i < ds.length := by rw [HN.out]; exact hin
              have hiz : (i : Int) < (n : Int) := by omega
              obtain ⟨b, o, e0, e1, e2, e3, rfl, hb, y0, y1, y2, y3, hnd⟩ := HB.out.2.2.kid i hil
              have hck : cntT (ds[i]'hil) ≤ cntL ds := cntL_mem (List.getElem_mem hil)
              have hcall := HIH.out (ds[i]'hil) (by have := HCN.out; omega) (by have := HC.out; omega)
              rcases Bool.eq_false_or_eq_true (shortT (ds[i]'hil)) with hs | hs
              · have HR := Lib.hid (hcall true hs e0 e1 e2 e3 wr hnd)
                have HSS := Lib.hid hs
                clear hnd hck hcall hs
                go_wp2_with (go_at_call 13; refine HR.out.mono ?_; rintro e w2 ⟨rfl, hb2⟩)
                have HB2 := Lib.hid (HB.out.go hb2)
                clear hb2
                go_roundw
                case measure => simp [intOf]; omega
                case rel =>
                  refine ⟨i + 1, by omega, by go_num, HB2, Lib.hid fun l hl hli => ?_⟩
                  rcases Nat.lt_succ_iff_lt_or_eq.1 hli with h | rfl
                  · exact HK.out l hl h
                  · exact HSS.out
              · have HR := Lib.hid (hcall false hs e0 e1 e2 e3 wr hnd)
                have HE : Hid (r = false) := Lib.hid (by rw [← HR0.out, shortL_no hil hs, Bool.and_false])
                clear hnd hck hcall hs
                go_wp2_with (go_at_call 13; refine HR.out.mono ?_; rintro e w2 ⟨rfl, hb2⟩)
                go_ret
                exact ⟨ret_b HE.out.symm, (HB.out.go hb2).1⟩
            · obtain rfl : i = n := by omega
              have HE : Hid (r = true) := Lib.hid (by rw [← HR0.out, HTL.out, HKA.out, shortL_all fun l hl => HK.out l hl (by rw [← HN.out]; exact hl)]; rfl)
              go_wp2
              go_ret
              exact ⟨ret_b HE.out.symm, HB.out.1⟩
end Go.Proofs.YtemndagaicamiaaGreatDoor
