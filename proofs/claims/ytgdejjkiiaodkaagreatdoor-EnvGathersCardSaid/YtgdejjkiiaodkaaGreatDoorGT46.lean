/- EnvLaw4, EnvEnd -/
import Derived.Laws.Cover1
import Derived.Test.YtgdejjkiiaodkaaGreatDoorGT28
import Derived.Test.YtgdejjkiiaodkaaGreatDoorGT30
import Derived.Test.YtgdejjkiiaodkaaGreatDoorGT42
import Derived.Test.YtgdejjkiiaodkaaGreatDoorGT43
import Derived.Test.YtgdejjkiiaodkaaGreatDoorGT45
set_option linter.unusedVariables false
set_option linter.unusedSimpArgs false
set_option maxRecDepth 100000
set_option maxHeartbeats 16000000
namespace Go.Proofs.YtgdejjkiiaodkaaGreatDoor
section
open Go.RowKit Go.Sort
open Nw V12 Q6
theorem textV_size {l : List KV} (h : ∀ p ∈ l, p.1.length ≤ 100 ∧ p.2.length ≤ 100) : (textV l).length ≤ 504 * l.length := by
 induction l with
 | nil => exact Nat.le_refl _
 | cons p l ih =>
  have e : textV (p :: l) = (rowV p ++ [10]) ++ textV l := by unfold textV; simp
  have h1 := h p List.mem_cons_self
  have h2 := ih fun q hq => h q (List.mem_cons_of_mem _ hq)
  have h3 := dblL_len p.2
  rw [e, List.length_append, List.length_append, List.length_cons]
  unfold rowV
  rw [List.length_append, List.length_cons]
  simp only [List.length_cons, List.length_nil]
  omega
section
variable (Pw : World → Prop) (hPw : ∀ w w', Pw w → Below w.heap.size w w' → Pw w')
variable (HParse : ∀ (s : ByteArray) (W : World), Pw W → s.size ≤ 100000 → Calls Tryz.prog 16 #[.string s] W (GivesPar (parV s.data.toList) W))
variable (HOf : ∀ (v : Value) (l : List KV) (W : World), Pw W → VR W v l → small100 l → Calls Tryz.prog 12 #[v] W (GivesV (ofV l) W))
variable (HOver : ∀ (v u : Value) (x y : List KV) (W : World), Pw W → VR W v x → VR W u y → EnvOk x → EnvOk y → small100 x → small100 y → x.length ≤ 64 → y.length ≤ 64 → Calls Tryz.prog 13 #[v, u] W (GivesV (ofV (x ++ y)) W))
variable (HGet : ∀ (v : Value) (x : List KV) (k : ByteArray) (W : World), Pw W → VR W v x → EnvOk x → small100 x → x.length ≤ 64 → k.size ≤ maxLen → Calls Tryz.prog 9 #[v, .string k] W fun e w' => e = .returned (.tuple #[.string (gotV x k.data.toList), .bool (gotB x k.data.toList)]) ∧ Below W.heap.size W w')
variable (HText : ∀ (v : Value) (x : List KV) (T : ByteArray) (W : World), Pw W → VR W v x → EnvOk x → small100 x → x.length ≤ 64 → textV x = T.data.toList → Calls Tryz.prog 14 #[v] W fun e w' => e = .returned (.string T) ∧ Below W.heap.size W w')
end
end
section
open Go.RowKit Go.Sort
open Nw V12 Q6
theorem max_keep (w w' : World) (h : SomeMax w) (hb : Below w.heap.size w w') : SomeMax w' := h.keep hb
theorem of_c (v : Value) (l : List KV) (W : World) (h : SomeMax W) (hv : VR W v l) (hs : small100 l) : Calls Tryz.prog 12 #[v] W (GivesV (ofV l) W) :=
 Of_any v l W hv (small_kvk hs) (by have := hs.1; omega)
theorem over_c (v u : Value) (x y : List KV) (W : World) (h : SomeMax W) (hv : VR W v x) (hu : VR W u y) (ex : EnvOk x) (ey : EnvOk y) (sx : small100 x) (sy : small100 y) (lx : x.length ≤ 64) (ly : y.length ≤ 64) :
  Calls Tryz.prog 13 #[v, u] W (GivesV (ofV (x ++ y)) W) :=
 Over_any v u x y W hv hu (small_app sx sy) (by omega)
theorem get_c (v : Value) (x : List KV) (k : ByteArray) (W : World) (h : SomeMax W) (hv : VR W v x) (ex : EnvOk x) (sx : small100 x) (lx : x.length ≤ 64) (hk : k.size ≤ maxLen) :
  Calls Tryz.prog 9 #[v, .string k] W fun e w' => e = .returned (.tuple #[.string (gotV x k.data.toList), .bool (gotB x k.data.toList)]) ∧ Below W.heap.size W w' :=
 Get_any v x (by omega) k W hv
theorem text_c (v : Value) (x : List KV) (T : ByteArray) (W : World) (h : SomeMax W) (hv : VR W v x) (ex : EnvOk x) (sx : small100 x) (lx : x.length ≤ 64) (hT : textV x = T.data.toList) :
  Calls Tryz.prog 14 #[v] W fun e w' => e = .returned (.string T) ∧ Below W.heap.size W w' :=
 Text_any12 v x T W hv (fun p hp => by have := sx.2 p hp; omega) (by omega) hT (by
  have := textV_size sx.2
  rw [hT, len_eq] at this
  omega)
theorem EnvGathers_row (k : ByteArray) (l : List KV) (v1 : Value) (m : List KV) (v2 : Value) (w : World) (hw : SomeMax w) (hk : k.size ≤ maxLen) (hl : VR w v1 l) (okl : KVok l) (hm : VR w v2 m) (okm : KVok m) :
  Calls Tryz.prog 3 #[v1, v2, .string k] w fun e w' => e = .returned (.bool true) ∧ Below w.heap.size w w' :=
 EnvGathers_walk SomeMax max_keep (fun s W h hs => Parse_any12 s W h hs) of_c over_c get_c text_c v1 v2 l m k w hw hl hm okl okm hk
end
end Go.Proofs.YtgdejjkiiaodkaaGreatDoor
