/- The reference's Split. -/
import Derived.Test.YtfafoognjodeiaaDoorRefWrd1
import Derived.Maps.AppendAt
namespace Go.Proofs.YtfafoognjodeiaaDoor
open Go.RowKit Go.Sort
open Nw W15
set_option linter.unusedVariables false
theorem infoSWa : (Tryd.prog.info? 9).map (fun i => (i.zero, i.size, i.bytes)) = some (some (.string ByteArray.empty), 1, 16) := by kernel_rfl
theorem infoSW : ∃ i, Tryd.prog.info? 9 = some i ∧ i.zero = some (.string ByteArray.empty) ∧ i.size = 1 ∧ i.bytes = 16 := by
  have h := infoSWa
  cases hi : Tryd.prog.info? 9 with
  | none => rw [hi] at h; cases h
  | some i =>
    rw [hi] at h
    simp only [Option.map_some, Option.some.injEq, Prod.mk.injEq] at h
    exact ⟨i, rfl, h.1, h.2.1, h.2.2⟩
theorem own_litW (w : World) : (w.alloc (.cells #[] 9)).ownsRow w.heap.size 9 1 (.slice (some ⟨w.heap.size, 0, none⟩) 0 0) (([] : List L8)).length ((([] : List L8)).map encStr) := World.ownsRow_made w #[] 0 (Nat.le_refl _) (Nat.zero_le _) (by simp)
theorem own_shapeW {w : World} {base n size : Nat} {e : TypeId} {v : Value} {xs : List Value} (h : w.ownsRow base e size v n xs) : ∃ a c, v = .slice a n c := by
  rcases h.2 with ⟨rfl, rfl⟩ | ⟨g, cap, cur, rfl, _⟩
  · exact ⟨none, 0, rfl⟩
  · exact ⟨_, cap, rfl⟩
theorem own_belW {w w' : World} {base n size : Nat} {e : TypeId} {v : Value} {xs : List Value} (h : w.ownsRow base e size v n xs) (hb : Below w.heap.size w w') : w'.ownsRow base e size v n xs := by
  refine ⟨h.1, ?_⟩
  rcases h.2 with h0 | ⟨g, cap, cur, h1, h2, h3, h4⟩
  · exact .inl h0
  · exact .inr ⟨g, cap, cur, h1, h2, (hb.block g (Array.getElem?_eq_some_iff.1 h3).1).trans h3, h4⟩
theorem grow_endW {w W W3 : World} {L : List L8} {O : ByteArray} {v v' : Value} {ln : Nat} {XS : List Value} {o : Obj} (hown : W.ownsRow w.heap.size 9 1 v ln XS) (hown' : W3.ownsRow w.heap.size 9 1 v' (ln + 1) (XS ++ [.string O])) (hg : (W.alloc o).grownBy W3 v.ownBlock) (hB : Below w.heap.size w W) (hln : L.length = ln) (hXS : L.map encStr = XS) :
    W3.ownsRow w.heap.size 9 1 v' (L ++ [O.data.toList]).length ((L ++ [O.data.toList]).map encStr) ∧ Below w.heap.size w W3 := by
  refine ⟨?_, ?_⟩
  · rw [List.length_append, List.map_append, hln, hXS]
    have e : [O.data.toList].map encStr = [Value.string O] := by simp [encStr, ba_of]
    rw [e]; exact hown'
  · exact (hB.alloc hB.size o).grown hg (by have := hB.size; simp; omega) fun q hq => (hown.lt q hq).1
set_option maxRecDepth 100000 in
set_option maxHeartbeats 16000000 in
theorem RSplit_any (s : ByteArray) (w : World) (hs : s.size ≤ 100000) :
    Calls Tryd.prog 8 #[.string s] w fun e w' => ∃ v, e = .returned (.tuple #[v, .int .i64 (errW s.data.toList)]) ∧ Rd w' v (wordsW s.data.toList) ∧ Below w.heap.size w w' := by
  obtain ⟨i0, hi, hz0, hz1, hz2⟩ := infoSW
  obtain ⟨n, hn⟩ : ∃ n, s.size = n := ⟨_, rfl⟩
  have HSN := Lib.hid hn
  have hn1 : n ≤ 100000 := by omega
  have HO0 := Lib.hid (own_litW w)
  have HB0 : Hid (Below w.heap.size w (w.alloc (.cells #[] 9))) := Lib.hid ((Below.refl _ _).alloc (Nat.le_refl _) _)
  obtain ⟨R, hR⟩ : ∃ R, T none s.data.toList = R := ⟨_, rfl⟩
  have HA : Hid ((R = none → errW s.data.toList = 3 ∧ wordsW s.data.toList = []) ∧ ∀ ws, R = some ws → (32 < ws.length → errW s.data.toList = 9 ∧ wordsW s.data.toList = []) ∧ (¬ 32 < ws.length → errW s.data.toList = 0 ∧ wordsW s.data.toList = ws)) := Lib.hid (by
    unfold errW wordsW
    rw [hR]
    refine ⟨fun e => by rw [e]; exact ⟨rfl, rfl⟩, fun ws e => ?_⟩
    rw [e]
    refine ⟨fun h => ⟨if_pos h, if_pos h⟩, fun h => ⟨if_neg h, if_neg h⟩⟩)
  have HR0 : Hid (T none (s.data.toList.drop 0) = R) := Lib.hid (by rw [List.drop_zero]; exact hR)
  obtain ⟨EW, hEW⟩ : ∃ EW, errW s.data.toList = EW := ⟨_, rfl⟩
  obtain ⟨WW, hWW⟩ : ∃ WW, wordsW s.data.toList = WW := ⟨_, rfl⟩
  rw [hEW, hWW] at HA
  rw [hEW, hWW]
  clear hR hEW hWW
  go_enter Tryd.func8, Tryd.ntmps8
  go_wp2
  go_loopw [4, 5, 6, 7, 8] (fun sv si s6 s7 s8 wr => ∃ (k : Nat) (L : List L8), k ≤ n ∧ L.length ≤ k ∧ si = .int .i64 (k : Int) ∧ Hid (wr.ownsRow w.heap.size 9 1 sv L.length (L.map encStr)) ∧ Hid (Below w.heap.size w wr) ∧ Hid ((T none (s.data.toList.drop k)).map (L ++ ·) = R)) (fun _ si _ _ _ _ => n - (intOf si).toNat)
  case atStart => exact ⟨0, [], Nat.zero_le _, Nat.zero_le _, rfl, HO0, HB0, Lib.hid (by rw [HR0.out]; cases R <;> rfl)⟩
  case round =>
    clear HO0 HB0 HR0
    obtain ⟨k, L, hk, hLk, rfl, HO, HB, HR⟩ := hrel
    by_cases hlt : k < n
    · have hks : k < s.size := by omega
      have hkz : (k : Int) < (n : Int) := by omega
      have hdk := drop_cW s k hks
      obtain ⟨c, hc⟩ : ∃ c, s[k]'hks = c := ⟨_, rfl⟩
      rw [hc] at hdk
      have kw : IntKind.i64.wrap ((k : Int) + 1) = (k : Int) + 1 := IntWalk.i64_in _ (by omega)
      have HC := Lib.hid (fun w0 => bl_any c w0)
      cases hbl : isBl c with
      | true =>
        rw [hbl] at HC
        have HN : Hid ((T none (s.data.toList.drop (k + 1))).map (L ++ ·) = R) := Lib.hid (by
          have := HR.out
          rw [hdk, T_bl hbl] at this
          rw [← this]
          cases T none (s.data.toList.drop (k + 1)) <;> rfl)
        clear hdk hbl HR
        go_wp2_with (go_at_call 17; refine (HC.out _).mono ?_; rintro e w2 ⟨rfl, rfl⟩)
        go_roundw
        case rel => exact ⟨k + 1, L, by omega, by omega, by go_num, HO, HB, HN⟩
        case measure => simp [intOf]; omega
      | false =>
        rw [hbl] at HC
        have HI : Hid ((T (some (⟨#[]⟩ : ByteArray).data.toList) (s.data.toList.drop k)).map (L ++ ·) = R) := Lib.hid (by
          have := HR.out
          rw [hdk] at this ⊢
          rw [show (⟨#[]⟩ : ByteArray).data.toList = [] from rfl, T_begin hbl]; exact this)
        have HBL : Hid (isBl c = false ∧ s[k]'hks = c) := Lib.hid ⟨hbl, hc⟩
        clear hdk hbl HR
        go_wp2_with (go_at_call 17; refine (HC.out _).mono ?_; rintro e w0 ⟨rfl, rfl⟩)
        go_loopw [5, 6, 7, 8] (fun si so s7 s8 wr => ∃ (j : Nat) (O : ByteArray), k ≤ j ∧ j ≤ n ∧ O.size ≤ j ∧ si = .int .i64 (j : Int) ∧ so = .string O ∧ wr = w0 ∧ Hid (j = k ∨ k < j) ∧ Hid ((T (some O.data.toList) (s.data.toList.drop j)).map (L ++ ·) = R)) (fun si _ _ _ _ => n - (intOf si).toNat)
        case atStart => exact ⟨k, ⟨#[]⟩, Nat.le_refl _, hk, Nat.zero_le _, rfl, rfl, rfl, Lib.hid (.inl rfl), HI⟩
        case round =>
          clear HI HC
          obtain ⟨j, O, hkj, hj, hOj, rfl, rfl, rfl, HJ, HI⟩ := hrel
          have HEND : Hid ((s.data.toList.drop j = [] ∨ ∃ c r, s.data.toList.drop j = c :: r ∧ isBl c = true) → (T none (s.data.toList.drop j)).map ((L ++ [O.data.toList]) ++ ·) = R ∧ k < j) := Lib.hid (fun h => by
            have h1 := HI.out
            rw [T_end _ _ h] at h1
            refine ⟨by rw [← h1]; cases T none (s.data.toList.drop j) <;> simp, ?_⟩
            rcases HJ.out with e | e
            · exfalso
              rw [e, drop_cW s k hks] at h
              rcases h with h | ⟨c', r', h, hb⟩
              · cases h
              · injection h with h _
                rw [← h, HBL.out.2, HBL.out.1] at hb
                cases hb
            · exact e)
          have hown := HO.out
          obtain ⟨va, vc, rfl⟩ := own_shapeW hown
          obtain ⟨ln, hln⟩ : ∃ ln, L.length = ln := ⟨_, rfl⟩
          obtain ⟨XS, hXS⟩ : ∃ XS, L.map encStr = XS := ⟨_, rfl⟩
          rw [hln, hXS] at hown
          rw [hln] at hLk
          rw [hln]
          have HLN := Lib.hid hln
          have HXS := Lib.hid hXS
          have jz : (j : Int) ≤ (n : Int) := by omega
          by_cases hlt2 : j < n
          · have hjs : j < s.size := by omega
            have hjz : (j : Int) < (n : Int) := by omega
            have hdj := drop_cW s j hjs
            obtain ⟨d, hd⟩ : ∃ d, s[j]'hjs = d := ⟨_, rfl⟩
            rw [hd] at hdj
            have HC2 := Lib.hid (fun w1 => bl_any d w1)
            cases hbd : isBl d with
            | true =>
              rw [hbd] at HC2
              have HE := Lib.hid (HEND.out (.inr ⟨d, _, hdj, hbd⟩))
              clear hdj hbd HEND HI hln hXS HJ
              go_wp2_with first
                | (go_at_call 17; refine (HC2.out _).mono ?_; rintro e w2 ⟨rfl, rfl⟩)
                | (at_builtin; refine wpList_append_own _ rfl _ _ 23 rfl w.heap.size 9 i0 _ 1 16 Tryd.underlying23 hi hz0 hz1 hz2 rfl (by decide) _ _ _ rfl (hown.alloc _) ⟨_, 0, none⟩ 1 1 [.string O] rfl rfl ?c1 ?c2 ?c3 ?c4 ?c5 ?_)
              case c1 =>
                intro j u hj
                match j, hj with
                | 0, hj => simp at hj; subst hj; simp [Addr.add]
              case c2 => intro u hu; simp at hu; subst hu; rfl
              case c3 => unfold maxLen; omega
              case c4 => omega
              case c5 => have := HB.out.size; simp; omega
              · intro v' w3 hown' hgrow _
                have HF := Lib.hid (grow_endW hown hown' hgrow HB.out HLN.out HXS.out)
                clear hown' hgrow hown
                go_wp2
                go_roundw
                case rel => exact ⟨j, L ++ [O.data.toList], hj, by rw [List.length_append, HLN.out]; show ln + 1 ≤ j; have := HE.out.2; omega, rfl, Lib.hid HF.out.1, Lib.hid HF.out.2, Lib.hid HE.out.1⟩
                case measure => have := HE.out.2; simp [intOf]; omega
            | false =>
              rw [hbd] at HC2
              have HPC := Lib.hid (fun w1 => piece_any s j w1 (by omega) hjs)
              cases hp : pcL (s.data.toList.drop j) with
              | none =>
                rw [hp] at HPC
                have HE : Hid (R = none) := Lib.hid (by
                  have h1 := HI.out
                  rw [hdj] at h1 hp
                  rw [T_bad hbd hp] at h1
                  rw [← h1]; rfl)
                have HF := Lib.hid (HA.out.1 HE.out)
                clear hdj hbd HEND HI hln hXS HJ hown hp
                go_wp2_with first
                  | (go_at_call 17; refine (HC2.out _).mono ?_; rintro e w2 ⟨rfl, rfl⟩)
                  | (go_at_call 18; refine (HPC.out _).mono ?_; rintro e w3 ⟨hpc, rfl⟩; simp only [PcO] at hpc; subst hpc)
                go_ret2
                exact ⟨.slice none 0 0, by rw [HF.out.1]; rfl, by rw [HF.out.2]; exact ⟨none, 0, rfl, Nat.le_refl _, Nat.zero_le _, .inl ⟨rfl, fun _ => rfl⟩⟩, HB.out⟩
              | some x =>
                obtain ⟨p, r⟩ := x
                rw [hp] at HPC
                have HN : Hid (∀ (q : ByteArray) (k' : Nat), q.data.toList = p → k' ≤ s.size → s.data.toList.drop k' = r → (T (some (O ++ q).data.toList) (s.data.toList.drop k')).map (L ++ ·) = R ∧ j < k' ∧ O.size + q.size ≤ k' ∧ k' ≤ n) := Lib.hid (fun q k' hq hk' hr => by
                  have h1 := HI.out
                  have h2 := pcL_len hp
                  rw [hdj] at h1 hp
                  rw [T_pc hbd hp] at h1
                  have hl1 : (s.data.toList.drop j).length = n - j := by rw [List.length_drop]; show s.size - j = n - j; omega
                  have hl2 : r.length = n - k' := by rw [← hr, List.length_drop]; show s.size - k' = n - k'; omega
                  have hl3 : p.length = q.size := by rw [← hq]; rfl
                  refine ⟨by rw [ByteArray.data_append, Array.toList_append, hq, hr]; exact h1, by omega, by omega, by omega⟩)
                clear hdj hbd HEND HI hln hXS HJ hown hp
                go_wp2_with first
                  | (go_at_call 17; refine (HC2.out _).mono ?_; rintro e w2 ⟨rfl, rfl⟩)
                  | (go_at_call 18; refine (HPC.out _).mono ?_; rintro e w3 ⟨hpc, rfl⟩; simp only [PcO] at hpc; obtain ⟨q, k', hq, hk', hr, rfl⟩ := hpc; have HNQ := Lib.hid (HN.out q k' hq hk' hr); clear hq hk' hr; have hsum := HNQ.out.2.2.1; have hkn := HNQ.out.2.2.2; have kq : (9223372036854775807 < O.size + q.size) = False := eq_false (by omega))
                go_roundw
                case rel => exact ⟨k', O ++ q, by have := HNQ.out.2.1; omega, hkn, by rw [ByteArray.size_append]; exact hsum, rfl, rfl, trivial, Lib.hid (.inr (by have := HNQ.out.2.1; omega)), Lib.hid HNQ.out.1⟩
                case measure => have := HNQ.out.2.1; simp [intOf]; omega
          · obtain rfl : j = n := by omega
            have HE := Lib.hid (HEND.out (.inl (drop_nW s j (by have := HSN.out; omega))))
            clear HEND HI hln hXS HJ
            go_wp2_with (at_builtin; refine wpList_append_own _ rfl _ _ 23 rfl w.heap.size 9 i0 _ 1 16 Tryd.underlying23 hi hz0 hz1 hz2 rfl (by decide) _ _ _ rfl (hown.alloc _) ⟨_, 0, none⟩ 1 1 [.string O] rfl rfl ?c1 ?c2 ?c3 ?c4 ?c5 ?_)
            case c1 =>
              intro j u hj
              match j, hj with
              | 0, hj => simp at hj; subst hj; simp [Addr.add]
            case c2 => intro u hu; simp at hu; subst hu; rfl
            case c3 => unfold maxLen; omega
            case c4 => omega
            case c5 => have := HB.out.size; simp; omega
            · intro v' w3 hown' hgrow _
              have HF := Lib.hid (grow_endW hown hown' hgrow HB.out HLN.out HXS.out)
              clear hown' hgrow hown
              go_wp2
              go_roundw
              case rel => exact ⟨j, L ++ [O.data.toList], Nat.le_refl _, by rw [List.length_append, HLN.out]; show ln + 1 ≤ j; have := HE.out.2; omega, rfl, Lib.hid HF.out.1, Lib.hid HF.out.2, Lib.hid HE.out.1⟩
              case measure => have := HE.out.2; simp [intOf]; omega
    · obtain rfl : k = n := by omega
      have HE : Hid (R = some L) := Lib.hid (by
        have := HR.out
        rw [drop_nW s k (by have := HSN.out; omega), T_nil] at this
        rw [← this]; simp)
      have hown := HO.out
      obtain ⟨va, vc, rfl⟩ := own_shapeW hown
      have HRD := Lib.hid (rd_of_owns hown)
      obtain ⟨ln, hln⟩ : ∃ ln, L.length = ln := ⟨_, rfl⟩
      rw [hln] at hLk HRD
      rw [hln]
      by_cases hb : 32 < ln
      · have hbz : (32 : Int) < (ln : Int) := by omega
        have HF := Lib.hid (((HA.out.2 L HE.out).1 (by rw [hln]; exact hb)))
        clear hown hln
        go_wp2
        go_ret2
        exact ⟨.slice none 0 0, by rw [HF.out.1]; rfl, by rw [HF.out.2]; exact ⟨none, 0, rfl, Nat.le_refl _, Nat.zero_le _, .inl ⟨rfl, fun _ => rfl⟩⟩, HB.out⟩
      · have hbz : ¬ (32 : Int) < (ln : Int) := by omega
        have HF := Lib.hid (((HA.out.2 L HE.out).2 (by rw [hln]; exact hb)))
        clear hown hln
        go_wp2
        go_ret2
        exact ⟨.slice va ln vc, by rw [HF.out.1]; rfl, by rw [HF.out.2]; exact HRD.out, HB.out⟩
end Go.Proofs.YtfafoognjodeiaaDoor
