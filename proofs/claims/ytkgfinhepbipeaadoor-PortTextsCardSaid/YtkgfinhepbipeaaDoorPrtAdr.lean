/- What the rows' condition says of the library's variable; splitting at a byte; the contract of isAddress. -/
import Derived.Test.YtkgfinhepbipeaaDoorPrtMem
import Derived.Test.YtkgfinhepbipeaaDoorShelf
import Derived.Test.YtkgfinhepbipeaaDoorShelfS
import Derived.Test.YtkgfinhepbipeaaDoorDigWalk1
import Derived.Test.YtkgfinhepbipeaaDoorRefPrt1
import Derived.Lib.SplitLaws
import Derived.Lib.IndexMore
import Derived.Lib.Replace
import Derived.Shelf.Vars
import Derived.Laws.EntriesVeiled
namespace Go.Proofs.YtkgfinhepbipeaaDoor
open Go.RowKit Go.Sort Go.ChangeShapes
open Nw Dg P16
set_option linter.unusedVariables false
/-- The library's variable holds some number. -/
def SomeMax (w : World) : Prop := ∃ m, w.cell? ⟨0, 0, none⟩ = some (.int .i64 m)
theorem SomeMax.keep {w w' : World} (h : SomeMax w) (hb : Below w.heap.size w w') : SomeMax w' := by
  obtain ⟨m, hm⟩ := h
  exact ⟨m, (hb.cell (World.block_lt_of_cell? _ _ hm)).trans hm⟩
theorem someMax_of_shape {w : World} (h : w.ShapedOpen Tryd.prog) : SomeMax w :=
  cell_of_shapedOpen_int (zero := #[.int .i64 0]) (t := 3) h (of_decide_eq_true (by kernel_rfl)) (by kernel_rfl) rfl (by kernel_rfl) (by kernel_rfl) Tryd.underlying3
/-- The pieces between the bytes c. -/
def rowsC (c : UInt8) : L8 → List L8
  | [] => [[]]
  | x :: l => if x = c then [] :: rowsC c l else match rowsC c l with | r :: rs => (x :: r) :: rs | [] => [[x]]
theorem rowsC_ne (c : UInt8) : ∀ l : L8, rowsC c l ≠ []
  | [] => by simp [rowsC]
  | x :: l => by
    rw [rowsC]
    split
    · simp
    · split <;> simp
theorem rowsC_split (c : UInt8) (l : L8) : Lib.splitK [c] 0 (Lib.count l [c]) l = rowsC c l := by
  induction l with
  | nil => rw [Lib.count_one]; rfl
  | cons x l ih =>
    unfold rowsC
    by_cases h : x = c
    · subst h
      have hix : Lib.index (x :: l) [x] = 0 := by rw [Lib.index]; simp [List.isPrefixOf]
      rw [Lib.count_cons_eq, Nat.add_comm, if_pos rfl, Lib.splitK, hix, ← ih]
      rfl
    · rw [Lib.count_cons_ne x c l h, if_neg h]
      have hp : ([c] : List UInt8).isPrefixOf (x :: l) = false := by simp [List.isPrefixOf, Ne.symm h]
      have hix : Lib.index (x :: l) [c] = if Lib.index l [c] == -1 then -1 else Lib.index l [c] + 1 := by rw [Lib.index, hp]; simp
      cases hk : Lib.count l [c] with
      | zero =>
        rw [hk] at ih
        rw [← ih]; rfl
      | succ k =>
        obtain ⟨i, hi⟩ := Lib.index_of_count (s := l) (old := [c]) (by omega)
        rw [hi] at hix
        have : ((i : Int) == -1) = false := beq_eq_false_iff_ne.2 (by omega)
        rw [this] at hix
        simp only [Bool.false_eq_true, if_false] at hix
        rw [hk, Lib.splitK, hi, this] at ih
        have h2 : ((i : Int) + 1 == -1) = false := beq_eq_false_iff_ne.2 (by omega)
        rw [Lib.splitK, hix, h2, ← ih]
        have e1 : ((i : Int) + 1).toNat = i + 1 := by omega
        rw [e1, Int.toNat_natCast]
        rfl
theorem cutA_rows (c : UInt8) : ∀ (l acc : L8), cutA c acc l = match rowsC c l with | r :: rs => (acc ++ r) :: rs | [] => [acc]
  | [], acc => by rw [cutA, rowsC]; simp
  | x :: l, acc => by
    rw [cutA, rowsC]
    split
    · rw [cutA_rows c l []]
      cases h : rowsC c l with
      | nil => exact absurd h (rowsC_ne c l)
      | cons r rs => simp
    · rw [cutA_rows c l (acc ++ [x])]
      cases h : rowsC c l with
      | nil => exact absurd h (rowsC_ne c l)
      | cons r rs => simp
theorem cut_rows (c : UInt8) (l : L8) : rowsC c l = cutL c l := by
  unfold cutL
  rw [cutA_rows]
  cases h : rowsC c l with
  | nil => exact absurd h (rowsC_ne c l)
  | cons r rs => rfl
/-- The pieces lie in w's next block. -/
def RowsP (rows : List ByteArray) (w w' : World) : Prop := Below w.heap.size w w' ∧ w.heap.size < w'.heap.size ∧ ∀ j (h : j < rows.length), w'.cell? ⟨w.heap.size, j, none⟩ = some (.string rows[j])
theorem splitP (s : ByteArray) (c : UInt8) (w : World) (hw : SomeMax w) (hs : s.size ≤ 100000) : ∃ rows : List ByteArray, rows.map (·.data.toList) = cutL c s.data.toList ∧ (∀ r ∈ rows, r.size ≤ 100000) ∧ rows.length ≤ 100001 ∧
    Calls Tryd.prog 39 #[.string s, .string ⟨#[c]⟩] w fun e w' => e = .returned (.slice (some ⟨w.heap.size, 0, none⟩) rows.length rows.length) ∧ RowsP rows w w' := by
  obtain ⟨m, hm⟩ := hw
  have hrows : (Lib.splitB ⟨#[c]⟩ 0 (Lib.countB s ⟨#[c]⟩) s).map (·.data.toList) = cutL c s.data.toList := by
    rw [Lib.splitB_data, ← cut_rows]; exact rowsC_split c _
  refine ⟨Lib.splitB ⟨#[c]⟩ 0 (Lib.countB s ⟨#[c]⟩) s, hrows, ?_, ?_, ?_⟩
  · intro r hr
    have := cutA_len2 c s.data.toList [] r.data.toList (by
      show _ ∈ cutL c _
      rw [← hrows]; exact List.mem_map_of_mem hr)
    rw [List.length_nil] at this
    have e1 : r.data.toList.length = r.size := rfl
    have e2 : s.data.toList.length = s.size := rfl
    omega
  · rw [Lib.splitB_all ⟨#[c]⟩ (by show 1 ≤ 1; exact Nat.le_refl _) 0 _ s rfl]
    have := Lib.countB_le ⟨#[c]⟩ (by show 1 ≤ 1; exact Nat.le_refl _) s.size s (Nat.le_refl _)
    omega
  · rw [Lib.splitB_all ⟨#[c]⟩ (by show 1 ≤ 1; exact Nat.le_refl _) 0 _ s rfl]
    refine (Tryd.strings_Split s ⟨#[c]⟩ m w (by omega) hm (by show 1 ≤ 1; exact Nat.le_refl _)).mono ?_
    rintro e w' ⟨rfl, rfl⟩
    refine ⟨rfl, (Below.refl _ _).alloc (Nat.le_refl _) _, by simp, fun j hj => ?_⟩
    have h1 : (w.alloc (.cells ((Lib.splitB ⟨#[c]⟩ 0 (Lib.countB s ⟨#[c]⟩) s).map Value.string).toArray 9)).heap[w.heap.size]? = some (.cells ((Lib.splitB ⟨#[c]⟩ 0 (Lib.countB s ⟨#[c]⟩) s).map Value.string).toArray 9 (0, 0)) := by
      show (w.heap.push _)[w.heap.size]? = _
      simp
    unfold World.cell?
    rw [h1]
    show ((Lib.splitB ⟨#[c]⟩ 0 (Lib.countB s ⟨#[c]⟩) s).map Value.string).toArray[j]? = _
    rw [List.getElem?_toArray, List.getElem?_map, List.getElem?_eq_getElem hj]; rfl
theorem ret_bA {a b : Bool} (h : a = b) : Ending.returned (.bool a) = .returned (.bool b) := by rw [h]
set_option maxRecDepth 100000 in
set_option maxHeartbeats 4000000 in
theorem addr_clo (x : ByteArray) (W : World) (hx : x.size ≤ 100000) :
    Calls Tryd.prog 41 #[.string x] W fun e w' => e = .returned (.bool (!okN x.data.toList 255)) ∧ W = w' := by
  have HK := Lib.hid (fun w0 => Count_any x 255 w0 (by unfold maxLen; omega) (by decide) (by decide))
  obtain ⟨n, hn⟩ : ∃ n, countN x.data.toList 255 = n := ⟨_, rfl⟩
  obtain ⟨E, hE⟩ : ∃ E, countE x.data.toList 255 = E := ⟨_, rfl⟩
  have HE : Hid ((!okN x.data.toList 255) = (E != 0)) := Lib.hid (by unfold okN; rw [hE]; rfl)
  rw [HE.out]
  rw [hn, hE] at HK
  clear hn hE HE
  go_enter Tryd.func41, Tryd.ntmps41
  go_wp2_with (go_at_call 37; refine (HK.out _).mono ?_; rintro e w3 ⟨rfl, rfl⟩)
  go_ret
  exact ⟨rfl, rfl⟩
/-- A short string. -/
def SmS : Type := { q : ByteArray // q.size ≤ 100000 }
instance smsInh : Inhabited SmS := ⟨⟨ByteArray.empty, Nat.zero_le _⟩⟩
theorem addr_pred (w : World) : PredAt Tryd.prog 41 #[] (fun q : SmS => .string q.1) (fun q => !okN q.1.data.toList 255) w := fun W x hb => by
  unfold FnGives
  exact (addr_clo x.1 W x.2).mono fun e w' ⟨h1, h2⟩ => ⟨h1, 0, h2.symm⟩
theorem any_rows : ∀ (zs : List SmS), (!(zs.any fun q => !okN q.1.data.toList 255)) = (zs.map fun q => q.1.data.toList).all fun x => okN x 255
  | [] => rfl
  | q :: zs => by
    rw [List.any_cons, List.map_cons, List.all_cons, ← any_rows zs, Bool.not_or, Bool.not_not]
theorem lift_rows : ∀ (rows : List ByteArray), (∀ r ∈ rows, r.size ≤ 100000) → ∃ zs : List SmS, zs.map (·.1) = rows
  | [], _ => ⟨[], rfl⟩
  | r :: rows, h => by
    obtain ⟨zs, hz⟩ := lift_rows rows fun x hx => h x (List.mem_cons_of_mem _ hx)
    exact ⟨⟨r, h r (List.mem_cons_self ..)⟩ :: zs, by
      show r :: zs.map (·.1) = r :: rows
      rw [hz]⟩
set_option maxRecDepth 100000 in
set_option maxHeartbeats 8000000 in
theorem isAddress_any (s : ByteArray) (w : World) (hw : SomeMax w) (hs : s.size ≤ 100000) :
    Calls Tryd.prog 23 #[.string s] w fun e w' => e = .returned (.bool (addrB s.data.toList)) ∧ Below w.heap.size w w' := by
  obtain ⟨rows, hrows, hsz, hln, hcall⟩ := splitP s 46 w hw hs
  have HAB : Hid (addrB s.data.toList = (decide (rows.length = 4) && (rows.map (·.data.toList)).all fun x => okN x 255)) := Lib.hid (by
    unfold addrB; rw [← hrows, List.length_map])
  obtain ⟨R, hR⟩ : ∃ R, addrB s.data.toList = R := ⟨_, rfl⟩
  rw [hR] at HAB
  rw [hR]
  obtain ⟨zs, hzs⟩ := lift_rows rows hsz
  have hzl : zs.length = rows.length := by rw [← hzs, List.length_map]
  have HANY : Hid ((!(zs.any fun q => !okN q.1.data.toList 255)) = (rows.map (·.data.toList)).all fun x => okN x 255) := Lib.hid (by
    rw [any_rows, ← hzs, List.map_map]; rfl)
  have HC := Lib.hid hcall
  have hgz : ∀ j (h : j < rows.length), zs[j]!.1 = rows[j] := by
    intro j h
    have : rows[j]? = some zs[j]!.1 := by
      rw [← hzs, List.getElem?_map, getElem!_pos zs j (by omega), List.getElem?_eq_getElem (by omega)]; rfl
    rw [List.getElem?_eq_getElem h] at this
    exact (Option.some.inj this).symm
  have HGZ := Lib.hid hgz
  have HZL := Lib.hid hzl
  obtain ⟨N, hN⟩ : ∃ N, rows.length = N := ⟨_, rfl⟩
  have HN := Lib.hid hN
  rw [hN] at HC HAB hln
  clear hrows hsz hcall hR hzl hgz hN hzs
  by_cases h4 : N = 4
  · subst h4
    have eg : ∀ args w, (callFunc 41 args).run Tryd.prog w = .ok (.enter 41 args) w := enters_of Tryd.func41 (by kernel_rfl) rfl
    have HF : Hid (∀ w1, RowsP rows w w1 → Calls Tryd.prog 40 #[.slice (some ⟨w.heap.size, 0, none⟩) 4 4, .func (.func 41) #[] #[]] w1 fun e w' => e = .returned (.bool (!R)) ∧ Below w1.heap.size w1 w') := Lib.hid (fun w1 h1 => by
      refine (Tryd.slices_ContainsFunc (fun q : SmS => .string q.1) (fun q => !okN q.1.data.toList 255) 41 #[] eg w.heap.size 0 4 4 zs w1 (addr_pred w1) (by rw [HZL.out, HN.out]; exact Nat.le_refl _) (by decide) (fun j hj => by
        have hj' : j < rows.length := by rw [← HZL.out]; exact hj
        rw [Nat.zero_add, h1.2.2 j hj', HGZ.out j hj'])).mono ?_
      rintro e w' ⟨rfl, q, rfl⟩
      refine ⟨ret_bA ?_, below_drewN' (Below.refl _ _) q⟩
      rw [List.take_of_length_le (by rw [HZL.out, HN.out]; exact Nat.le_refl _), HAB.out, decide_eq_true rfl, Bool.true_and, ← HANY.out, Bool.not_not])
    clear HANY HGZ HZL eg HAB HN
    go_enter Tryd.func23, Tryd.ntmps23
    go_wp2_with first
      | (go_at_call 39; refine HC.out.mono ?_; rintro e w1 ⟨rfl, hr⟩; have HR := Lib.hid hr; clear hr)
      | (go_at_call 40; refine (HF.out _ HR.out).mono ?_; rintro e w2 ⟨rfl, hb⟩; have HB := Lib.hid hb; clear hb)
    go_ret
    exact ⟨ret_bA (by simp), HR.out.1.trans (HB.out.mono HR.out.1.size)⟩
  · have HE : Hid (R = false) := Lib.hid (by rw [HAB.out, decide_eq_false h4, Bool.false_and])
    have e1 : ((N : Int) == 4) = false := beq_eq_false_iff_ne.2 (by omega)
    have e3 : ¬ (N : Int) = 4 := by omega
    clear HAB HANY HGZ HZL HN
    go_enter Tryd.func23, Tryd.ntmps23
    go_wp2_with (go_at_call 39; refine HC.out.mono ?_; rintro e w1 ⟨rfl, hr⟩; have HR := Lib.hid hr; clear hr)
    go_ret
    exact ⟨by rw [HE.out]; rfl, HR.out.1⟩
end Go.Proofs.YtkgfinhepbipeaaDoor
