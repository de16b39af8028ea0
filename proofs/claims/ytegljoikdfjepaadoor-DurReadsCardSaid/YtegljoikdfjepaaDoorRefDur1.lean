/- The contract of the document's own group. -/
import Derived.Test.YtegljoikdfjepaaDoorDurMath
import Derived.Test.YtegljoikdfjepaaDoorDigSmall
import Derived.RegionTactic
import Derived.ChangeAlike
import Derived.Below
namespace Go.Proofs.YtegljoikdfjepaaDoor
open Go.RowKit
open Dg
set_option linter.unusedVariables false
theorem results_tmp4 {fn : Func} {t u v x : Tmp} (h : fn.results = #[.tmp t, .tmp u, .tmp v, .tmp x]) (tmps : Array Value) (P : Program) (w : World) :
    (results fn tmps).run P w = .ok (.tuple #[tmps.getD t undef, tmps.getD u undef, tmps.getD v undef, tmps.getD x undef]) w := by
  simp [results, h]
theorem ret_sisb {a c : ByteArray} {b b' : Int} {d d' : Bool} {a' c' : ByteArray} (h1 : a = a') (h2 : b = b') (h3 : c = c') (h4 : d = d') : Ending.returned (.tuple #[.string a, .int .i64 b, .string c, .bool d]) = .returned (.tuple #[.string a', .int .i64 b', .string c', .bool d']) := by rw [h1, h2, h3, h4]
theorem RWhole_q (h : ByteArray) (o : Bool) (w : World) (m : Nat) (hs : h.size ≤ maxLen) (ho : whole h.data.toList = o) :
    Calls Tryd.prog 30 #[.string h] (w.drewN (1 + m)) fun e w'' => e = .returned (.bool o) ∧ ∃ n, w'' = w.drewN (1 + n) :=
  (RWhole_any h _ hs).mono fun e w' ⟨h1, h2⟩ => ⟨by rw [h1, ho], m, h2.symm⟩
/-- What the document's own group answers. -/
def rH (l : List UInt8) : List UInt8 := if uS (tlD l) = 0 then [] else hdD l
def rO (l : List UInt8) : Bool := !(uS (tlD l) == 0) && whole (hdD l)
theorem tl_head {l : List UInt8} {c : UInt8} {r : List UInt8} (h : tlD l = c :: r) : isDig c = false := by
  unfold tlD at h
  have := List.head?_dropWhile_not isDig l
  rw [h] at this
  simpa using this
theorem hd_all (l : List UInt8) (k : Nat) (hk : k < (hdD l).length) : isDig (hdD l)[k] = true := by
  have h : ∀ x ∈ hdD l, isDig x = true := by
    intro x hx
    have := List.all_takeWhile (p := isDig) (l := l)
    rw [List.all_eq_true] at this
    exact this x hx
  exact h _ (List.getElem_mem hk)

set_option maxHeartbeats 4000000 in
theorem Rgroup_any (s : ByteArray) (w : World) (hs : s.size ≤ maxLen) :
    Calls Tryd.prog 19 #[.string s] w fun e w' => e = .returned (.tuple #[.string ⟨(rH s.data.toList).toArray⟩, .int .i64 (uI (tlD s.data.toList)), .string ⟨(uR (tlD s.data.toList)).toArray⟩, .bool (rO s.data.toList)]) ∧ Below w.heap.size w w' := by
  obtain ⟨t, ht⟩ : ∃ t : ByteArray, tlD s.data.toList = t.data.toList := ⟨⟨(tlD s.data.toList).toArray⟩, by simp⟩
  obtain ⟨h, hh⟩ : ∃ h : ByteArray, hdD s.data.toList = h.data.toList := ⟨⟨(hdD s.data.toList).toArray⟩, by simp⟩
  obtain ⟨o, ho⟩ : ∃ o, whole h.data.toList = o := ⟨_, rfl⟩
  have hl : s.data.toList = h.data.toList ++ t.data.toList := by rw [← hh, ← ht, hd_tl]
  have hz : s.size = h.size + t.size := by rw [← len_eq s, hl, List.length_append, len_eq, len_eq]
  have hx : s.extract 0 h.size = h := bytes_ext (by rw [Lib.extract_data, hl]; exact List.take_left)
  have hy : s.extract h.size s.size = t := bytes_ext (by
    rw [Lib.extract_data, hl, ← len_eq h, List.drop_left]
    exact List.take_of_length_le (by rw [len_eq, len_eq]; omega))
  have hhs : h.size ≤ maxLen := by omega
  have hle : h.size ≤ s.size := by omega
  have hdig : ∀ (k : Nat) (h1 : k < h.size) (h2 : k < s.size), (48 : Int) ≤ (s[k].toNat : Int) ∧ (s[k].toNat : Int) ≤ 57 := by
    intro k h1 h2
    have e1 : s.data.toList[k]? = h.data.toList[k]? := by rw [hl, List.getElem?_append_left (by rw [len_eq]; exact h1)]
    rw [List.getElem?_eq_getElem (by rw [len_eq]; exact h2), List.getElem?_eq_getElem (by rw [len_eq]; exact h1)] at e1
    have e2 := hd_all s.data.toList k (by rw [hh, len_eq]; exact h1)
    have e3 : (hdD s.data.toList)[k]'(by rw [hh, len_eq]; exact h1) = s[k] := by
      have : (hdD s.data.toList)[k]? = some s[k] := by
        rw [hh, List.getElem?_eq_getElem (by rw [len_eq]; exact h1), ← e1]; rfl
      rw [List.getElem?_eq_getElem (by rw [hh, len_eq]; exact h1)] at this
      exact Option.some.inj this
    rw [e3] at e2
    have := dv_le e2
    omega
  have HDig := Lib.hid hdig
  have HT := Lib.hid ht
  have HH := Lib.hid hh
  have HO := Lib.hid ho
  unfold maxLen at hs
  have hhs' := hhs
  unfold maxLen at hhs'
  clear hdig
  by_cases he : t.data.toList = []
  · have HN : Hid (rH s.data.toList = [] ∧ uI (tlD s.data.toList) = 0 ∧ uR (tlD s.data.toList) = [] ∧ rO s.data.toList = false) := Lib.hid (by
      unfold rH rO; rw [ht, he]; exact ⟨rfl, rfl, rfl, rfl⟩)
    obtain rfl : t = ⟨#[]⟩ := bytes_ext (by rw [he])
    have hz0 : s.size = h.size := by rw [hz]; rfl
    clear he hl hz ht hh ho
    go_enter Tryd.func19, Tryd.ntmps19
    go_wp2
    go_loop [6] (fun i => ∃ k : Nat, k ≤ h.size ∧ i = .int .i64 (k : Int)) (fun i => s.size - (intOf i).toNat)
    case atStart => exact ⟨0, Nat.zero_le _, rfl⟩
    case round =>
      obtain ⟨k, hk, rfl⟩ := hrel
      by_cases hlt : k < h.size
      · have hlt2 : k < s.size := by omega
        obtain ⟨g1, g2⟩ := HDig.out k hlt hlt2
        go_wp2
        go_round
        case rel => exact ⟨k + 1, by omega, by go_num⟩
        case measure => simp [intOf]; omega
      · obtain rfl : k = h.size := by omega
        have hlt2 : ¬ h.size < s.size := by omega
        go_wp2
        go_region
        go_wp2
        (try simp only [Exit.inBlock, Exit.then])
        refine bodyPost_ret (results_tmp4 rfl _ _ _) rfl ?_
        exact ⟨ret_sisb (by rw [HN.out.1]) (by rw [HN.out.2.1]; rfl) (by rw [HN.out.2.2.1]) HN.out.2.2.2.symm, (Below.refl _ _).drew⟩
  · obtain ⟨c, r, hr⟩ : ∃ c, ∃ r : ByteArray, t.data.toList = c :: r.data.toList := by
      cases hx : t.data.toList with
      | nil => exact absurd hx he
      | cons c t => exact ⟨c, ⟨t.toArray⟩, by simp⟩
    obtain ⟨tx, tz, tpos, tc⟩ := cut1b hr
    have hnd := tl_head (ht.trans hr)
    have hlt2 : h.size < s.size := by omega
    have hsk : s[h.size] = c := by
      have e1 : s.data.toList[h.size]? = some c := by rw [hl, ← len_eq h, hr]; simp
      rw [List.getElem?_eq_getElem (by rw [len_eq]; exact hlt2)] at e1
      exact Option.some.inj e1
    have hle2 : h.size ≤ s.size := by omega
    have ht1 : (1 : Int) ≤ (t.size : Int) := by omega
    by_cases n104 : c = 104
    · subst n104
      have HR : Hid (rH s.data.toList = h.data.toList ∧ uI (tlD s.data.toList) = 0 ∧ uR (tlD s.data.toList) = r.data.toList ∧ rO s.data.toList = o) := Lib.hid (by
        unfold rH rO; rw [ht, hr, hh, ho]; exact ⟨rfl, rfl, rfl, by rw [uS_cons]; rfl⟩)
      have hg1 : (48 : Int) ≤ (s[h.size].toNat : Int) := by rw [hsk]; decide
      have hg2 : (57 : Int) < (s[h.size].toNat : Int) := by rw [hsk]; decide
      have t104 : ((t[0].toNat : Int) == 104) = true := byte_yes 104 (by decide) tc
      have t109 : ((t[0].toNat : Int) == 109) = false := byte_no 109 (by decide) (by rw [tc]; decide)
      have t115 : ((t[0].toNat : Int) == 115) = false := byte_no 115 (by decide) (by rw [tc]; decide)
      clear hl hz ht hh ho hr hsk tz hnd he
      clear tc
      by_cases h2 : 2 ≤ t.size
      · have h2' : (2 : Int) ≤ (t.size : Int) := by omega
        go_enter Tryd.func19, Tryd.ntmps19
        go_wp2
        go_loop [6] (fun i => ∃ k : Nat, k ≤ h.size ∧ i = .int .i64 (k : Int)) (fun i => s.size - (intOf i).toNat)
        case atStart => exact ⟨0, Nat.zero_le _, rfl⟩
        case round =>
          obtain ⟨k, hk, rfl⟩ := hrel
          by_cases hlt : k < h.size
          · have hlt2 : k < s.size := by omega
            obtain ⟨g1, g2⟩ := HDig.out k hlt hlt2
            go_wp2
            go_round
            case rel => exact ⟨k + 1, by omega, by go_num⟩
            case measure => simp [intOf]; omega
          · obtain rfl : k = h.size := by omega
            go_wp2
            go_region
            go_wp2
            go_quiet (first | (go_at_call 30; exact RWhole_q h o _ _ hhs HO.out))
            go_wp2
            (try simp only [Exit.inBlock, Exit.then])
            refine bodyPost_ret (results_tmp4 rfl _ _ _) rfl ?_
            exact ⟨ret_sisb (mk_of HR.out.1).symm (by rw [HR.out.2.1]; rfl) (mk_of HR.out.2.2.1).symm HR.out.2.2.2.symm, ⟨rfl, rfl, rfl, Nat.le_refl _, fun _ _ => rfl⟩⟩
      · have h2' : ¬ (2 : Int) ≤ (t.size : Int) := by omega
        go_enter Tryd.func19, Tryd.ntmps19
        go_wp2
        go_loop [6] (fun i => ∃ k : Nat, k ≤ h.size ∧ i = .int .i64 (k : Int)) (fun i => s.size - (intOf i).toNat)
        case atStart => exact ⟨0, Nat.zero_le _, rfl⟩
        case round =>
          obtain ⟨k, hk, rfl⟩ := hrel
          by_cases hlt : k < h.size
          · have hlt2 : k < s.size := by omega
            obtain ⟨g1, g2⟩ := HDig.out k hlt hlt2
            go_wp2
            go_round
            case rel => exact ⟨k + 1, by omega, by go_num⟩
            case measure => simp [intOf]; omega
          · obtain rfl : k = h.size := by omega
            go_wp2
            go_region
            go_wp2
            go_quiet (first | (go_at_call 30; exact RWhole_q h o _ _ hhs HO.out))
            go_wp2
            (try simp only [Exit.inBlock, Exit.then])
            refine bodyPost_ret (results_tmp4 rfl _ _ _) rfl ?_
            exact ⟨ret_sisb (mk_of HR.out.1).symm (by rw [HR.out.2.1]; rfl) (mk_of HR.out.2.2.1).symm HR.out.2.2.2.symm, ⟨rfl, rfl, rfl, Nat.le_refl _, fun _ _ => rfl⟩⟩
    · by_cases n109 : c = 109
      · subst n109
        have hg1 : (48 : Int) ≤ (s[h.size].toNat : Int) := by rw [hsk]; decide
        have hg2 : (57 : Int) < (s[h.size].toNat : Int) := by rw [hsk]; decide
        have t104 : ((t[0].toNat : Int) == 104) = false := byte_no 104 (by decide) (by rw [tc]; decide)
        have t109 : ((t[0].toNat : Int) == 109) = true := byte_yes 109 (by decide) tc
        have t115 : ((t[0].toNat : Int) == 115) = false := byte_no 115 (by decide) (by rw [tc]; decide)
        by_cases hms : r.data.toList.head? = some 115
        · obtain ⟨q, hq⟩ : ∃ q : ByteArray, r.data.toList = 115 :: q.data.toList := by
            obtain ⟨t, ht⟩ := List.head?_eq_some_iff.1 hms
            exact ⟨⟨t.toArray⟩, by simp [ht]⟩
          have HR : Hid (rH s.data.toList = h.data.toList ∧ uI (tlD s.data.toList) = 3 ∧ uR (tlD s.data.toList) = q.data.toList ∧ rO s.data.toList = o) := Lib.hid (by
            unfold rH rO; rw [ht, hr, hh, ho]; rw [hq]; exact ⟨rfl, rfl, rfl, rfl⟩)
          obtain ⟨rx, rz, rpos, rc⟩ := cut1b hq
          have h2' : (2 : Int) ≤ (t.size : Int) := by omega
          have h2n : 1 < t.size := by omega
          have hb1 : t[1] = 115 := by
            have e1 : t.data.toList[1]? = some 115 := by rw [hr, hq]; rfl
            rw [List.getElem?_eq_getElem (by rw [len_eq]; exact h2n)] at e1
            exact Option.some.inj e1
          have t1b : ((t[1].toNat : Int) == 115) = true := byte_yes 115 (by decide) hb1
          have tx2 : t.extract 2 t.size = q := bytes_ext (by
            rw [Lib.extract_data, hr, hq]
            exact List.take_of_length_le (by show q.data.toList.length ≤ _; rw [len_eq]; omega))
          clear hl hz ht hh ho hr hsk tz hnd he
          clear tc
          clear hb1 hq rz rc rx hms
          go_enter Tryd.func19, Tryd.ntmps19
          go_wp2
          go_loop [6] (fun i => ∃ k : Nat, k ≤ h.size ∧ i = .int .i64 (k : Int)) (fun i => s.size - (intOf i).toNat)
          case atStart => exact ⟨0, Nat.zero_le _, rfl⟩
          case round =>
            obtain ⟨k, hk, rfl⟩ := hrel
            by_cases hlt : k < h.size
            · have hlt2 : k < s.size := by omega
              obtain ⟨g1, g2⟩ := HDig.out k hlt hlt2
              go_wp2
              go_round
              case rel => exact ⟨k + 1, by omega, by go_num⟩
              case measure => simp [intOf]; omega
            · obtain rfl : k = h.size := by omega
              go_wp2
              go_region
              go_wp2
              go_quiet (first | (go_at_call 30; exact RWhole_q h o _ _ hhs HO.out))
              go_wp2
              (try simp only [Exit.inBlock, Exit.then])
              refine bodyPost_ret (results_tmp4 rfl _ _ _) rfl ?_
              exact ⟨ret_sisb (mk_of HR.out.1).symm (by rw [HR.out.2.1]; rfl) (mk_of HR.out.2.2.1).symm HR.out.2.2.2.symm, ⟨rfl, rfl, rfl, Nat.le_refl _, fun _ _ => rfl⟩⟩
        · have hnms := hms
          have e1 : uS (109 :: r.data.toList) = 60000 := by rw [uS_cons, if_neg (by decide), if_pos rfl, if_neg hms]
          have e2 : uI (109 :: r.data.toList) = 1 := by rw [uI_cons, if_neg (by decide), if_pos rfl, if_neg hms]
          have e3 : uR (109 :: r.data.toList) = r.data.toList := by rw [uR_cons, if_neg (by decide), if_pos rfl, if_neg hms]
          have HR : Hid (rH s.data.toList = h.data.toList ∧ uI (tlD s.data.toList) = 1 ∧ uR (tlD s.data.toList) = r.data.toList ∧ rO s.data.toList = o) := Lib.hid (by
            unfold rH rO; rw [ht, hr, hh, ho]; rw [e1, e2, e3]; exact ⟨rfl, rfl, rfl, rfl⟩)
          by_cases h2 : 2 ≤ t.size
          · have h2' : (2 : Int) ≤ (t.size : Int) := by omega
            have h2n : 1 < t.size := by omega
            have hb1 : t[1] ≠ 115 := by
              intro e
              apply hms
              have e1 : t.data.toList[1]? = some t[1] := by
                rw [List.getElem?_eq_getElem (by rw [len_eq]; exact h2n)]; rfl
              rw [hr, e] at e1
              rw [List.head?_eq_getElem?]
              exact e1
            have t1b : ((t[1].toNat : Int) == 115) = false := byte_no 115 (by decide) hb1
            clear hl hz ht hh ho hr hsk tz hnd he
            clear tc
            clear hb1 hms hnms e1 e2 e3
            go_enter Tryd.func19, Tryd.ntmps19
            go_wp2
            go_loop [6] (fun i => ∃ k : Nat, k ≤ h.size ∧ i = .int .i64 (k : Int)) (fun i => s.size - (intOf i).toNat)
            case atStart => exact ⟨0, Nat.zero_le _, rfl⟩
            case round =>
              obtain ⟨k, hk, rfl⟩ := hrel
              by_cases hlt : k < h.size
              · have hlt2 : k < s.size := by omega
                obtain ⟨g1, g2⟩ := HDig.out k hlt hlt2
                go_wp2
                go_round
                case rel => exact ⟨k + 1, by omega, by go_num⟩
                case measure => simp [intOf]; omega
              · obtain rfl : k = h.size := by omega
                go_wp2
                go_region
                go_wp2
                go_quiet (first | (go_at_call 30; exact RWhole_q h o _ _ hhs HO.out))
                go_wp2
                (try simp only [Exit.inBlock, Exit.then])
                refine bodyPost_ret (results_tmp4 rfl _ _ _) rfl ?_
                exact ⟨ret_sisb (mk_of HR.out.1).symm (by rw [HR.out.2.1]; rfl) (mk_of HR.out.2.2.1).symm HR.out.2.2.2.symm, ⟨rfl, rfl, rfl, Nat.le_refl _, fun _ _ => rfl⟩⟩
          · have h2' : ¬ (2 : Int) ≤ (t.size : Int) := by omega
            clear hl hz ht hh ho hr hsk tz hnd he
            clear tc
            clear hms hnms e1 e2 e3
            go_enter Tryd.func19, Tryd.ntmps19
            go_wp2
            go_loop [6] (fun i => ∃ k : Nat, k ≤ h.size ∧ i = .int .i64 (k : Int)) (fun i => s.size - (intOf i).toNat)
            case atStart => exact ⟨0, Nat.zero_le _, rfl⟩
            case round =>
              obtain ⟨k, hk, rfl⟩ := hrel
              by_cases hlt : k < h.size
              · have hlt2 : k < s.size := by omega
                obtain ⟨g1, g2⟩ := HDig.out k hlt hlt2
                go_wp2
                go_round
                case rel => exact ⟨k + 1, by omega, by go_num⟩
                case measure => simp [intOf]; omega
              · obtain rfl : k = h.size := by omega
                go_wp2
                go_region
                go_wp2
                go_quiet (first | (go_at_call 30; exact RWhole_q h o _ _ hhs HO.out))
                go_wp2
                (try simp only [Exit.inBlock, Exit.then])
                refine bodyPost_ret (results_tmp4 rfl _ _ _) rfl ?_
                exact ⟨ret_sisb (mk_of HR.out.1).symm (by rw [HR.out.2.1]; rfl) (mk_of HR.out.2.2.1).symm HR.out.2.2.2.symm, ⟨rfl, rfl, rfl, Nat.le_refl _, fun _ _ => rfl⟩⟩
      · by_cases n115 : c = 115
        · subst n115
          have HR : Hid (rH s.data.toList = h.data.toList ∧ uI (tlD s.data.toList) = 2 ∧ uR (tlD s.data.toList) = r.data.toList ∧ rO s.data.toList = o) := Lib.hid (by
            unfold rH rO; rw [ht, hr, hh, ho]; exact ⟨rfl, rfl, rfl, rfl⟩)
          have hg1 : (48 : Int) ≤ (s[h.size].toNat : Int) := by rw [hsk]; decide
          have hg2 : (57 : Int) < (s[h.size].toNat : Int) := by rw [hsk]; decide
          have t104 : ((t[0].toNat : Int) == 104) = false := byte_no 104 (by decide) (by rw [tc]; decide)
          have t109 : ((t[0].toNat : Int) == 109) = false := byte_no 109 (by decide) (by rw [tc]; decide)
          have t115 : ((t[0].toNat : Int) == 115) = true := byte_yes 115 (by decide) tc
          clear hl hz ht hh ho hr hsk tz hnd he
          clear tc
          by_cases h2 : 2 ≤ t.size
          · have h2' : (2 : Int) ≤ (t.size : Int) := by omega
            go_enter Tryd.func19, Tryd.ntmps19
            go_wp2
            go_loop [6] (fun i => ∃ k : Nat, k ≤ h.size ∧ i = .int .i64 (k : Int)) (fun i => s.size - (intOf i).toNat)
            case atStart => exact ⟨0, Nat.zero_le _, rfl⟩
            case round =>
              obtain ⟨k, hk, rfl⟩ := hrel
              by_cases hlt : k < h.size
              · have hlt2 : k < s.size := by omega
                obtain ⟨g1, g2⟩ := HDig.out k hlt hlt2
                go_wp2
                go_round
                case rel => exact ⟨k + 1, by omega, by go_num⟩
                case measure => simp [intOf]; omega
              · obtain rfl : k = h.size := by omega
                go_wp2
                go_region
                go_wp2
                go_quiet (first | (go_at_call 30; exact RWhole_q h o _ _ hhs HO.out))
                go_wp2
                (try simp only [Exit.inBlock, Exit.then])
                refine bodyPost_ret (results_tmp4 rfl _ _ _) rfl ?_
                exact ⟨ret_sisb (mk_of HR.out.1).symm (by rw [HR.out.2.1]; rfl) (mk_of HR.out.2.2.1).symm HR.out.2.2.2.symm, ⟨rfl, rfl, rfl, Nat.le_refl _, fun _ _ => rfl⟩⟩
          · have h2' : ¬ (2 : Int) ≤ (t.size : Int) := by omega
            go_enter Tryd.func19, Tryd.ntmps19
            go_wp2
            go_loop [6] (fun i => ∃ k : Nat, k ≤ h.size ∧ i = .int .i64 (k : Int)) (fun i => s.size - (intOf i).toNat)
            case atStart => exact ⟨0, Nat.zero_le _, rfl⟩
            case round =>
              obtain ⟨k, hk, rfl⟩ := hrel
              by_cases hlt : k < h.size
              · have hlt2 : k < s.size := by omega
                obtain ⟨g1, g2⟩ := HDig.out k hlt hlt2
                go_wp2
                go_round
                case rel => exact ⟨k + 1, by omega, by go_num⟩
                case measure => simp [intOf]; omega
              · obtain rfl : k = h.size := by omega
                go_wp2
                go_region
                go_wp2
                go_quiet (first | (go_at_call 30; exact RWhole_q h o _ _ hhs HO.out))
                go_wp2
                (try simp only [Exit.inBlock, Exit.then])
                refine bodyPost_ret (results_tmp4 rfl _ _ _) rfl ?_
                exact ⟨ret_sisb (mk_of HR.out.1).symm (by rw [HR.out.2.1]; rfl) (mk_of HR.out.2.2.1).symm HR.out.2.2.2.symm, ⟨rfl, rfl, rfl, Nat.le_refl _, fun _ _ => rfl⟩⟩
        · have HN : Hid (rH s.data.toList = [] ∧ uI (tlD s.data.toList) = 0 ∧ uR (tlD s.data.toList) = [] ∧ rO s.data.toList = false) := Lib.hid (by
            have e1 : uS (c :: r.data.toList) = 0 := by rw [uS_cons, if_neg n104, if_neg n109, if_neg n115]
            unfold rH rO; rw [ht, hr, e1, uI_cons, uR_cons, if_neg n104, if_neg n109, if_neg n115, if_neg n104, if_neg n109, if_neg n115]; exact ⟨rfl, rfl, rfl, rfl⟩)
          have t104 : ((t[0].toNat : Int) == 104) = false := byte_no 104 (by decide) (by rw [tc]; exact n104)
          have t109 : ((t[0].toNat : Int) == 109) = false := byte_no 109 (by decide) (by rw [tc]; exact n109)
          have t115 : ((t[0].toNat : Int) == 115) = false := byte_no 115 (by decide) (by rw [tc]; exact n115)
          by_cases hlo : (s[h.size].toNat : Int) < 48
          · clear hl hz ht hh ho hr hsk tz hnd he tc n104 n109 n115
            by_cases h2 : 2 ≤ t.size
            · have h2' : (2 : Int) ≤ (t.size : Int) := by omega
              go_enter Tryd.func19, Tryd.ntmps19
              go_wp2
              go_loop [6] (fun i => ∃ k : Nat, k ≤ h.size ∧ i = .int .i64 (k : Int)) (fun i => s.size - (intOf i).toNat)
              case atStart => exact ⟨0, Nat.zero_le _, rfl⟩
              case round =>
                obtain ⟨k, hk, rfl⟩ := hrel
                by_cases hlt : k < h.size
                · have hlt2 : k < s.size := by omega
                  obtain ⟨g1, g2⟩ := HDig.out k hlt hlt2
                  go_wp2
                  go_round
                  case rel => exact ⟨k + 1, by omega, by go_num⟩
                  case measure => simp [intOf]; omega
                · obtain rfl : k = h.size := by omega
                  go_wp2
                  go_region
                  go_wp2
                  (try simp only [Exit.inBlock, Exit.then])
                  refine bodyPost_ret (results_tmp4 rfl _ _ _) rfl ?_
                  exact ⟨ret_sisb (by rw [HN.out.1]) (by rw [HN.out.2.1]; rfl) (by rw [HN.out.2.2.1]) HN.out.2.2.2.symm, (Below.refl _ _).drew⟩
            · have h2' : ¬ (2 : Int) ≤ (t.size : Int) := by omega
              go_enter Tryd.func19, Tryd.ntmps19
              go_wp2
              go_loop [6] (fun i => ∃ k : Nat, k ≤ h.size ∧ i = .int .i64 (k : Int)) (fun i => s.size - (intOf i).toNat)
              case atStart => exact ⟨0, Nat.zero_le _, rfl⟩
              case round =>
                obtain ⟨k, hk, rfl⟩ := hrel
                by_cases hlt : k < h.size
                · have hlt2 : k < s.size := by omega
                  obtain ⟨g1, g2⟩ := HDig.out k hlt hlt2
                  go_wp2
                  go_round
                  case rel => exact ⟨k + 1, by omega, by go_num⟩
                  case measure => simp [intOf]; omega
                · obtain rfl : k = h.size := by omega
                  go_wp2
                  go_region
                  go_wp2
                  (try simp only [Exit.inBlock, Exit.then])
                  refine bodyPost_ret (results_tmp4 rfl _ _ _) rfl ?_
                  exact ⟨ret_sisb (by rw [HN.out.1]) (by rw [HN.out.2.1]; rfl) (by rw [HN.out.2.2.1]) HN.out.2.2.2.symm, (Below.refl _ _).drew⟩
          · have hg1 : (48 : Int) ≤ (s[h.size].toNat : Int) := by omega
            have hg2 : (57 : Int) < (s[h.size].toNat : Int) := by
              apply Classical.byContradiction
              intro hc
              have := isDig_of hg1 (by omega)
              rw [hsk, hnd] at this
              exact absurd this (by decide)
            clear hl hz ht hh ho hr hsk tz hnd he tc n104 n109 n115
            by_cases h2 : 2 ≤ t.size
            · have h2' : (2 : Int) ≤ (t.size : Int) := by omega
              go_enter Tryd.func19, Tryd.ntmps19
              go_wp2
              go_loop [6] (fun i => ∃ k : Nat, k ≤ h.size ∧ i = .int .i64 (k : Int)) (fun i => s.size - (intOf i).toNat)
              case atStart => exact ⟨0, Nat.zero_le _, rfl⟩
              case round =>
                obtain ⟨k, hk, rfl⟩ := hrel
                by_cases hlt : k < h.size
                · have hlt2 : k < s.size := by omega
                  obtain ⟨g1, g2⟩ := HDig.out k hlt hlt2
                  go_wp2
                  go_round
                  case rel => exact ⟨k + 1, by omega, by go_num⟩
                  case measure => simp [intOf]; omega
                · obtain rfl : k = h.size := by omega
                  go_wp2
                  go_region
                  go_wp2
                  (try simp only [Exit.inBlock, Exit.then])
                  refine bodyPost_ret (results_tmp4 rfl _ _ _) rfl ?_
                  exact ⟨ret_sisb (by rw [HN.out.1]) (by rw [HN.out.2.1]; rfl) (by rw [HN.out.2.2.1]) HN.out.2.2.2.symm, (Below.refl _ _).drew⟩
            · have h2' : ¬ (2 : Int) ≤ (t.size : Int) := by omega
              go_enter Tryd.func19, Tryd.ntmps19
              go_wp2
              go_loop [6] (fun i => ∃ k : Nat, k ≤ h.size ∧ i = .int .i64 (k : Int)) (fun i => s.size - (intOf i).toNat)
              case atStart => exact ⟨0, Nat.zero_le _, rfl⟩
              case round =>
                obtain ⟨k, hk, rfl⟩ := hrel
                by_cases hlt : k < h.size
                · have hlt2 : k < s.size := by omega
                  obtain ⟨g1, g2⟩ := HDig.out k hlt hlt2
                  go_wp2
                  go_round
                  case rel => exact ⟨k + 1, by omega, by go_num⟩
                  case measure => simp [intOf]; omega
                · obtain rfl : k = h.size := by omega
                  go_wp2
                  go_region
                  go_wp2
                  (try simp only [Exit.inBlock, Exit.then])
                  refine bodyPost_ret (results_tmp4 rfl _ _ _) rfl ?_
                  exact ⟨ret_sisb (by rw [HN.out.1]) (by rw [HN.out.2.1]; rfl) (by rw [HN.out.2.2.1]) HN.out.2.2.2.symm, (Below.refl _ _).drew⟩
end Go.Proofs.YtegljoikdfjepaaDoor
