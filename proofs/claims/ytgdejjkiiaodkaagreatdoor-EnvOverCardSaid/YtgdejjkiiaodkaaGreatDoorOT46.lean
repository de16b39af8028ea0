/- EnvEnd -/
import Derived.Test.YtgdejjkiiaodkaaGreatDoorOT25
import Derived.Test.YtgdejjkiiaodkaaGreatDoorOT27
import Derived.Test.YtgdejjkiiaodkaaGreatDoorOT42
import Derived.Test.YtgdejjkiiaodkaaGreatDoorOT43
import Derived.Test.YtgdejjkiiaodkaaGreatDoorOT45
set_option linter.unusedVariables false
set_option linter.unusedSimpArgs false
set_option maxRecDepth 100000
set_option maxHeartbeats 16000000
namespace Go.Proofs.YtgdejjkiiaodkaaGreatDoor
section
open Go.RowKit Go.Sort
open Nw V12 Q6
theorem max_keep (w w' : World) (h : SomeMax w) (hb : Below w.heap.size w w') : SomeMax w' := h.keep hb
theorem of_c (v : Value) (l : List KV) (W : World) (h : SomeMax W) (hv : VR W v l) (hs : small100 l) : Calls Tryz.prog 12 #[v] W (GivesV (ofV l) W) :=
 Of_any v l W hv (small_kvk hs) (by have := hs.1; omega)
theorem over_c (v u : Value) (x y : List KV) (W : World) (h : SomeMax W) (hv : VR W v x) (hu : VR W u y) (ex : EnvOk x) (ey : EnvOk y) (sx : small100 x) (sy : small100 y) (lx : x.length ≤ 64) (ly : y.length ≤ 64) :
  Calls Tryz.prog 13 #[v, u] W (GivesV (ofV (x ++ y)) W) :=
 Over_any v u x y W hv hu (small_app sx sy) (by omega)
theorem get_c (v : Value) (x : List KV) (k : ByteArray) (W : World) (h : SomeMax W) (hv : VR W v x) (ex : EnvOk x) (sx : small100 x) (lx : x.length ≤ 64) (hk : k.size ≤ maxLen) :
  Calls Tryz.prog 9 #[v, .string k] W fun e w' => e = .returned (.tuple #[.string (gotV x k.data.toList), .bool (gotB x k.data.toList)]) ∧ Below W.heap.size W w' :=
 Get_any v x (by omega) k W hv
theorem text_c (v : Value) (x : List KV) (T : ByteArray) (W : World) (h : SomeMax W) (hv : VR W v x) (ex : EnvOk x) (sx : small100 x) (lx : x.length ≤ 64) (hT : textV x = T.data.toList) :
  Calls Tryz.prog 14 #[v] W fun e w' => e = .returned (.string T) ∧ Below W.heap.size W w' :=
 Text_any12 v x T W hv (fun p hp => by have := sx.2 p hp; omega) (by omega) hT (by
  have := textV_size sx.2
  rw [hT, len_eq] at this
  omega)
theorem EnvOver_row (k : ByteArray) (l : List KV) (v1 : Value) (m : List KV) (v2 : Value) (w : World) (hw : SomeMax w) (hk : k.size ≤ maxLen) (hl : VR w v1 l) (okl : KVok l) (hm : VR w v2 m) (okm : KVok m) :
  Calls Tryz.prog 5 #[v1, v2, .string k] w fun e w' => e = .returned (.bool true) ∧ Below w.heap.size w w' :=
 EnvOver_walk SomeMax max_keep (fun s W h hs => Parse_any12 s W h hs) of_c over_c get_c text_c v1 v2 l m k w hw hl hm okl okm hk
end
end Go.Proofs.YtgdejjkiiaodkaaGreatDoor
