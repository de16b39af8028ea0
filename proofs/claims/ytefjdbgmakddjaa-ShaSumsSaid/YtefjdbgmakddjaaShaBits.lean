/- Words of 32 bits: the contracts of the small functions on them, of the program and of the document's own. -/
import Derived.Test.YtefjdbgmakddjaaRows
import Derived.Below
import Derived.WalkKit
import Derived.ProofKit
import Derived.Lib.Hide
import Derived.Laws.Bits64b
import Derived.Laws.BitsAllLaws
import Derived.Deep.QuietTactic
import Derived.BigQuiet
namespace Go.Proofs.Ytefjdbgmakddjaa
open Go.RowKit
set_option linter.unusedVariables false
namespace Sh
def W32 (x : Int) : Prop := 0 ≤ x ∧ x < 4294967296
def p32 (a b : Int) : Int := IntKind.u32.wrap (a + b)
def rotL (x k l : Int) : Int := bits .or .u32 (IntKind.u32.wrap (x * k)) (x / l)
def S0 (x : Int) : Int := bits .xor .u32 (bits .xor .u32 (rotL x 1073741824 4) (rotL x 524288 8192)) (rotL x 1024 4194304)
def S1 (x : Int) : Int := bits .xor .u32 (bits .xor .u32 (rotL x 67108864 64) (rotL x 2097152 2048)) (rotL x 128 33554432)
def s0 (x : Int) : Int := bits .xor .u32 (bits .xor .u32 (rotL x 33554432 128) (rotL x 16384 262144)) (x / 8)
def s1 (x : Int) : Int := bits .xor .u32 (bits .xor .u32 (rotL x 32768 131072) (rotL x 8192 524288)) (x / 1024)
def ch (x y z : Int) : Int := bits .xor .u32 (bits .and .u32 x y) (bits .and .u32 (4294967295 - x) z)
def maj (x y z : Int) : Int := bits .xor .u32 (bits .xor .u32 (bits .and .u32 x y) (bits .and .u32 x z)) (bits .and .u32 y z)

theorem wrap32 (n : Int) : IntKind.u32.wrap n = n % 4294967296 := by simp [IntKind.wrap, IntKind.bits, IntKind.signed]
theorem wrap_w (n : Int) : W32 (IntKind.u32.wrap n) := by rw [wrap32]; unfold W32; omega
theorem p32_w (a b : Int) : W32 (p32 a b) := wrap_w _
theorem bits_w (o : BinOp) (a b : Int) : W32 (bits o .u32 a b) := by unfold bits; exact wrap_w _
theorem ofInt_n (x : Nat) (h : x < 4294967296) : (BitVec.ofInt 32 (x : Int)).toNat = x := by
  rw [BitVec.ofInt_natCast, BitVec.toNat_ofNat]; exact Nat.mod_eq_of_lt (by omega)
theorem not32 {x : Int} (h : W32 x) : bits .xor .u32 4294967295 x = 4294967295 - x := by
  obtain ⟨n, rfl⟩ : ∃ n : Nat, x = (n : Int) := ⟨x.toNat, by have := h.1; omega⟩
  have hn : n < 4294967296 := by have := h.2; omega
  show IntKind.u32.wrap ((BitVec.ofInt 32 4294967295 ^^^ BitVec.ofInt 32 (n : Int)).toNat : Int) = _
  have h1 : BitVec.ofInt 32 4294967295 = BitVec.allOnes 32 := by decide
  rw [h1, BitVec.allOnes_xor, BitVec.toNat_not, ofInt_n n hn, wrap32]
  omega
theorem or_comm32 (a b : Int) : bits .or .u32 a b = bits .or .u32 b a := by
  show IntKind.u32.wrap ((BitVec.ofInt 32 a ||| BitVec.ofInt 32 b).toNat : Int) = IntKind.u32.wrap ((BitVec.ofInt 32 b ||| BitVec.ofInt 32 a).toNat : Int)
  rw [BitVec.or_comm]
theorem or_sum (a b k K : Nat) (hK : 2 ^ k = K) (ha : a * K + b < 4294967296) (hb : b < K) : bits .or .u32 ((a * K : Nat) : Int) (b : Int) = ((a * K + b : Nat) : Int) := by
  subst hK
  show IntKind.u32.wrap ((BitVec.ofInt 32 ((a * 2 ^ k : Nat) : Int) ||| BitVec.ofInt 32 (b : Int)).toNat : Int) = _
  rw [BitVec.toNat_or, ofInt_n _ (by omega), ofInt_n _ (by omega), ← Nat.shiftLeft_eq, ← Nat.shiftLeft_add_eq_or_of_lt hb, Nat.shiftLeft_eq, wrap32]
  omega
/-- The big-endian word of four bytes. -/
def be (a b c d : UInt8) : Int := (a.toNat : Int) * 16777216 + (b.toNat : Int) * 65536 + (c.toNat : Int) * 256 + (d.toNat : Int)
theorem be_w (a b c d : UInt8) : W32 (be a b c d) := by
  have := a.toNat_lt; have := b.toNat_lt; have := c.toNat_lt; have := d.toNat_lt
  unfold W32 be; omega
theorem wr_id {n : Int} (h : W32 n) : IntKind.u32.wrap n = n := by rw [wrap32]; have h0 := h.1; have h1 := h.2; omega
theorem be_arith (A B C : Nat) : (A * 256 + B) * 65536 + C * 256 = (A * 65536 + B * 256 + C) * 256 := by omega
theorem be_or (a b c d : UInt8) : bits .or .u32 (bits .or .u32 (bits .or .u32 ((a.toNat : Int) * 16777216) ((b.toNat : Int) * 65536)) ((c.toNat : Int) * 256)) (d.toNat : Int) = be a b c d := by
  have h1 := a.toNat_lt; have h2 := b.toNat_lt; have h3 := c.toNat_lt; have h4 := d.toNat_lt
  unfold be
  generalize a.toNat = A at *
  generalize b.toNat = B at *
  generalize c.toNat = C at *
  generalize d.toNat = D at *
  have e1 : ((A : Int) * 16777216) = ((A * 16777216 : Nat) : Int) := by omega
  have e2 : ((B : Int) * 65536) = ((B * 65536 : Nat) : Int) := by omega
  have e4 : ((C : Int) * 256) = ((C * 256 : Nat) : Int) := by omega
  have e3 : A * 16777216 + B * 65536 = (A * 256 + B) * 65536 := by omega
  have e5 := be_arith A B C
  have q1 := or_sum A (B * 65536) 24 16777216 rfl (by omega) (by omega)
  have q2 := or_sum (A * 256 + B) (C * 256) 16 65536 rfl (by omega) (by omega)
  have q3 := or_sum (A * 65536 + B * 256 + C) D 8 256 rfl (by omega) (by omega)
  rw [e1, e2, e4, q1, e3, q2, e5, q3]
  omega
theorem ret_u {x y : Int} (h : x = y) : Ending.returned (.int .u32 x) = .returned (.int .u32 y) := by rw [h]
end Sh
open Sh

/-- The rotations that the program makes: by n to the right, as a product and a quotient. -/
def tab (n k l : Int) : Prop := (n = 2 ∧ k = 1073741824 ∧ l = 4) ∨ (n = 13 ∧ k = 524288 ∧ l = 8192) ∨ (n = 22 ∧ k = 1024 ∧ l = 4194304) ∨ (n = 6 ∧ k = 67108864 ∧ l = 64) ∨ (n = 11 ∧ k = 2097152 ∧ l = 2048) ∨
  (n = 25 ∧ k = 128 ∧ l = 33554432) ∨ (n = 7 ∧ k = 33554432 ∧ l = 128) ∨ (n = 18 ∧ k = 16384 ∧ l = 262144) ∨ (n = 17 ∧ k = 32768 ∧ l = 131072) ∨ (n = 19 ∧ k = 8192 ∧ l = 524288)

theorem and31 (n m : Nat) (h : (18446744073709551616 - n) % 32 = m) (h0 : 0 < n) (h1 : n ≤ 32) : bits .and .u64 (18446744073709551616 - (n : Int)) 31 = (m : Int) := by
  have h2 := bits_and_u64_nat (18446744073709551616 - n) 31 (by omega) (by omega)
  rw [show (18446744073709551616 - n) &&& 31 = (18446744073709551616 - n) % 2 ^ 5 from Nat.and_two_pow_sub_one_eq_mod _ 5] at h2
  rw [show ((18446744073709551616 - n : Nat) : Int) = 18446744073709551616 - (n : Int) by omega] at h2
  rw [← h]; exact h2
set_option maxHeartbeats 2000000 in
theorem RotateLeft32_any (x n k l : Int) (w : World) (h : tab n k l) :
    Calls Try.prog 59 #[.int .u32 x, .int .i64 (-n)] w fun e w' => e = .returned (.int .u32 (rotL x k l)) ∧ w = w' := by
  have r2 : bits .and .u64 (IntKind.u64.wrap (-2)) 31 = 30 := by rw [show IntKind.u64.wrap (-2) = 18446744073709551614 by decide]; exact and31 2 30 rfl (by decide) (by decide)
  have r13 : bits .and .u64 (IntKind.u64.wrap (-13)) 31 = 19 := by rw [show IntKind.u64.wrap (-13) = 18446744073709551603 by decide]; exact and31 13 19 rfl (by decide) (by decide)
  have r22 : bits .and .u64 (IntKind.u64.wrap (-22)) 31 = 10 := by rw [show IntKind.u64.wrap (-22) = 18446744073709551594 by decide]; exact and31 22 10 rfl (by decide) (by decide)
  have r6 : bits .and .u64 (IntKind.u64.wrap (-6)) 31 = 26 := by rw [show IntKind.u64.wrap (-6) = 18446744073709551610 by decide]; exact and31 6 26 rfl (by decide) (by decide)
  have r11 : bits .and .u64 (IntKind.u64.wrap (-11)) 31 = 21 := by rw [show IntKind.u64.wrap (-11) = 18446744073709551605 by decide]; exact and31 11 21 rfl (by decide) (by decide)
  have r25 : bits .and .u64 (IntKind.u64.wrap (-25)) 31 = 7 := by rw [show IntKind.u64.wrap (-25) = 18446744073709551591 by decide]; exact and31 25 7 rfl (by decide) (by decide)
  have r7 : bits .and .u64 (IntKind.u64.wrap (-7)) 31 = 25 := by rw [show IntKind.u64.wrap (-7) = 18446744073709551609 by decide]; exact and31 7 25 rfl (by decide) (by decide)
  have r18 : bits .and .u64 (IntKind.u64.wrap (-18)) 31 = 14 := by rw [show IntKind.u64.wrap (-18) = 18446744073709551598 by decide]; exact and31 18 14 rfl (by decide) (by decide)
  have r17 : bits .and .u64 (IntKind.u64.wrap (-17)) 31 = 15 := by rw [show IntKind.u64.wrap (-17) = 18446744073709551599 by decide]; exact and31 17 15 rfl (by decide) (by decide)
  have r19 : bits .and .u64 (IntKind.u64.wrap (-19)) 31 = 13 := by rw [show IntKind.u64.wrap (-19) = 18446744073709551597 by decide]; exact and31 19 13 rfl (by decide) (by decide)
  rcases h with ⟨rfl, rfl, rfl⟩ | ⟨rfl, rfl, rfl⟩ | ⟨rfl, rfl, rfl⟩ | ⟨rfl, rfl, rfl⟩ | ⟨rfl, rfl, rfl⟩ | ⟨rfl, rfl, rfl⟩ | ⟨rfl, rfl, rfl⟩ | ⟨rfl, rfl, rfl⟩ | ⟨rfl, rfl, rfl⟩ | ⟨rfl, rfl, rfl⟩
  all_goals
    unfold rotL
    go_enter Try.func59, Try.ntmps59
    go_wp2
    go_ret
    exact ⟨rfl, rfl⟩
theorem rotate_any (x n k l : Int) (w : World) (h : tab n k l) :
    Calls Try.prog 58 #[.int .u32 x, .int .i64 n] w fun e w' => e = .returned (.int .u32 (rotL x k l)) ∧ w = w' := by
  have hn : IntKind.i64.wrap (-n) = -n := by
    rcases h with ⟨rfl, -⟩ | ⟨rfl, -⟩ | ⟨rfl, -⟩ | ⟨rfl, -⟩ | ⟨rfl, -⟩ | ⟨rfl, -⟩ | ⟨rfl, -⟩ | ⟨rfl, -⟩ | ⟨rfl, -⟩ | ⟨rfl, -⟩ <;> decide
  have hn0 : IntKind.i64.wrap (0 - n) = -n := by rw [Int.zero_sub]; exact hn
  have HT := Lib.hid h
  clear h
  go_enter Try.func58, Try.ntmps58
  go_wp2_with (go_at_call 59; refine (RotateLeft32_any x n k l _ HT.out).mono ?_; rintro e w1 ⟨rfl, rfl⟩)
  go_ret
  exact ⟨rfl, rfl⟩
end Go.Proofs.Ytefjdbgmakddjaa
