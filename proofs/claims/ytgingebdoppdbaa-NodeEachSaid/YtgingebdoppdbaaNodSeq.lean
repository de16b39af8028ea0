/- The contracts of the program's Text and Seq; words for what a call gives back. -/
import Derived.Test.YtgingebdoppdbaaNodRow
namespace Go.Proofs.Ytgingebdoppdbaa
open Go.RowKit Go.Sort
open Nw N8
set_option linter.unusedVariables false
/-- A node handed back. -/
def GivesN (d : Nd) (w : World) (e : Ending) (w' : World) : Prop := ∃ c0 c1 c2 c3, e = .returned (.agg #[c0, c1, c2, c3]) ∧ NdW w' d c0 c1 c2 c3 ∧ Below w.heap.size w w'
theorem KO.put {S : Nat → Prop} {base : Nat} {w : World} {v : Value} {qs : List Q4} {ds : List Nd} {g : Nat} (h : KO S base w v qs ds) (hg : g < base) (hS : ∀ b, S b → b ≠ g) (a' b' c' d' : Value) : KO S base (put4 w g a' b' c' d') v qs ds :=
  h.keep (fun b hs => ⟨hs, put4_oth b (hS b hs) _ _ _ _⟩) fun x hx => put4_oth x (by have := (h.1.lt x hx).1; omega) _ _ _ _
theorem owns_put {w : World} {base n size : Nat} {e : TypeId} {v : Value} {xs : List Value} {g : Nat} (h : w.ownsRow base e size v n xs) (hg : g < base) (a' b' c' d' : Value) : (put4 w g a' b' c' d').ownsRow base e size v n xs :=
  owns_keep h fun x hx => put4_oth x (by have := (h.lt x hx).1; omega) _ _ _ _
theorem put4_size (w : World) (g : Nat) (a' b' c' d' : Value) : (put4 w g a' b' c' d').heap.size = w.heap.size := by simp [put4]
theorem ndw_map {w : World} {k : Int} {ks : List L8} {ds : List Nd} {c2 c3 : Value} (h2 : Rd w c2 ks) (h3 : Kd w c3 ds) : NdW w (.mk k [] ks ds) (.int .i64 k) (.string ⟨#[]⟩) c2 c3 := ndw_mk (t := []) h2 h3
theorem rd_none (w : World) : Rd w (.slice none 0 0) [] := rd_empty w none 0 (Nat.zero_le _) fun _ => rfl
theorem kd_none (w : World) : Kd w (.slice none 0 0) [] := ⟨none, 0, rfl, Nat.le_refl _, Nat.zero_le _, fun _ => rfl, by rw [NdK]; trivial⟩
theorem ndw_text (w : World) (s : ByteArray) : NdW w (.mk 1 s.data.toList [] []) (.int .i64 1) (.string s) (.slice none 0 0) (.slice none 0 0) := by
  have := ndw_mk (k := 1) (t := s.data.toList) (rd_none w) (kd_none w)
  rwa [ba_of] at this
set_option maxHeartbeats 2000000 in
theorem Text_any (s : ByteArray) (w : World) :
    Calls Try.prog 32 #[.string s] w fun e w' => e = .returned (.agg #[.int .i64 1, .string s, .slice none 0 0, .slice none 0 0]) ∧ Below w.heap.size w w' := by
  go_enter Try.func32, Try.ntmps32
  go_wp2
  refine bodyPost_ret (v := .agg #[.int .i64 1, .string s, .slice none 0 0, .slice none 0 0]) (by simp [results, Try.results32, go_sem]) rfl ⟨rfl, (Below.refl _ _).alloc (Nat.le_refl _) _⟩
set_option maxRecDepth 100000 in
set_option maxHeartbeats 2000000 in
theorem Seq_any (v : Value) (ds : List Nd) (w : World) (h : Kd w v ds) (hl : ds.length ≤ 100000) :
    Calls Try.prog 22 #[v] w (GivesN (.mk 2 [] [] ds) w) := by
  have hal : Below w.heap.size w (w.alloc (.cells #[.int .i64 0, .string ⟨#[]⟩, .slice none 0 0, .slice none 0 0] 25)) := (Below.refl _ _).alloc (Nat.le_refl _) _
  have HC := Lib.hid (CloneN_any (· < w.heap.size) v ds _ (fun b hb => Nat.lt_of_lt_of_le hb hal.size) (show KdS (· < w.heap.size) (w.alloc (.cells #[.int .i64 0, .string ⟨#[]⟩, .slice none 0 0, .slice none 0 0] 25)) v ds from by
    obtain ⟨A, cap, h1, h2, h3, h4, h5⟩ := h
    exact ⟨A, cap, h1, h2, h3, h4, NdK.keep (fun b hlt => ⟨hlt, hal.block b hlt⟩) ds h5⟩) hl)
  have HAL := Lib.hid hal
  have HR := Lib.hid (Row4.make w 25 (.int .i64 0) (.string ⟨#[]⟩) (.slice none 0 0) (.slice none 0 0))
  obtain ⟨A, cap, rfl, -⟩ := h.shape
  clear h hal
  generalize hW0 : w.alloc (.cells #[.int .i64 0, .string ⟨#[]⟩, .slice none 0 0, .slice none 0 0] 25) = W0 at *
  go_enter Try.func22, Try.ntmps22
  go_wp2_with fail
  refine HC.out.mono ?_
  rintro e w2 ⟨v', rfl, ⟨qs, ho⟩, hb⟩
  have HB := Lib.hid (HAL.out.trans (hb.mono HAL.out.size))
  have HR2 := Lib.hid (HR.out.below hb HR.out.lt)
  have hlt := HR.out.lt
  have HK := Lib.hid (ho.put (g := w.heap.size) hlt (fun b hb => by omega) (.int .i64 2) (.string ⟨#[]⟩) (.slice none 0 0) v')
  have HX := Lib.hid (below_put4 HB.out (g := w.heap.size) (Nat.le_refl _) (.int .i64 2) (.string ⟨#[]⟩) (.slice none 0 0) v')
  have HN : Hid (NdW (put4 w2 w.heap.size (.int .i64 2) (.string ⟨#[]⟩) (.slice none 0 0) v') (.mk 2 [] [] ds) (.int .i64 2) (.string ⟨#[]⟩) (.slice none 0 0) v') := Lib.hid (ndw_map (rd_none _) (HK.out.kd fun b hb => Nat.lt_of_lt_of_le hb HX.out.size))
  obtain ⟨A2, cap2, rfl, -⟩ := (ho.kd fun b hb => Nat.lt_of_lt_of_le hb HB.out.size).shape
  generalize ds.length = m at *
  obtain ⟨z0, z1, z2, z3⟩ := HR2.out.cells
  obtain ⟨f0, f1, f2, f3⟩ := HR2.out.frozen
  clear ho hb hlt
  go_wp2
  refine bodyPost_ret (v := .agg #[.int .i64 2, .string ⟨#[]⟩, .slice none 0 0, .slice A2 m cap2]) (by simp [results, Try.results22, go_sem, z0, z1, z2, z3]) rfl ⟨_, _, _, _, rfl, HN.out, HX.out⟩
end Go.Proofs.Ytgingebdoppdbaa
