/- TmpSuf -/
import Derived.Test.YtkcilmmaggmmoaaDoorPT6
set_option linter.unusedVariables false
set_option linter.unusedSimpArgs false
set_option maxRecDepth 100000
set_option maxHeartbeats 16000000
namespace Go.Proofs.YtkcilmmaggmmoaaDoor
namespace Nw
end Nw
end Go.Proofs.YtkcilmmaggmmoaaDoor
namespace Go.Proofs.YtkcilmmaggmmoaaDoor
namespace T13
open Nw
theorem stp_suf {d : Nat} {c : UInt8} {t : L8} : (∀ b r, stp d c t = .lit b r → r <:+ t) ∧ (∀ n r, stp d c t = .plain n r → r <:+ t) ∧ (∀ n o v, stp d c t = .brc n o v → v <:+ t) := by
 unfold stp
 refine ⟨fun b r h => ?_, fun n r h => ?_, fun n o v h => ?_⟩
 all_goals
  repeat' split at h
  all_goals first
   | (cases h; done)
   | (cases h; exact List.suffix_refl _)
   | (cases h; exact List.drop_suffix _ _)
   | (cases h; exact (List.drop_suffix _ _).trans (List.drop_suffix _ _))
   | (cases h; exact ((List.drop_suffix _ _).trans (List.drop_suffix _ _)).trans (List.drop_suffix _ _))
theorem prs_suf : ∀ (f d : Nat) (done : List Pt) (lit l : L8) (ps : List Pt) (r : L8), prs f d done lit l = .ok ps r → r <:+ l
 | 0, _, _, _, _, _, _, h => by cases h
 | f + 1, d, done, lit, [], ps, r, h => by
  rw [prs] at h; cases h; exact List.suffix_refl _
 | f + 1, d, done, lit, c :: t, ps, r, h => by
  rw [prs] at h
  have hs := @stp_suf d c t
  have ht : t <:+ c :: t := List.suffix_cons _ _
  cases hst : stp d c t with
  | stop => rw [hst] at h; cases h; exact List.suffix_refl _
  | lit b r' => rw [hst] at h; exact ((prs_suf f d _ _ _ _ _ h).trans (hs.1 _ _ hst)).trans ht
  | bad e => rw [hst] at h; cases h
  | plain n r' => rw [hst] at h; exact ((prs_suf f d _ _ _ _ _ h).trans (hs.2.1 _ _ hst)).trans ht
  | brc n o v =>
   rw [hst] at h
   simp only [] at h
   cases hp : prs f (d + 1) [] [] v with
   | err e => rw [hp] at h; cases h
   | ok sub rest =>
    rw [hp] at h
    simp only [] at h
    split at h
    ·exact ((((prs_suf f d _ _ _ _ _ h).trans (List.drop_suffix _ _)).trans (prs_suf f (d + 1) _ _ _ _ _ hp)).trans (hs.2.2 _ _ _ hst)).trans ht
    ·cases h
theorem prsA_suf {d : Nat} {done : List Pt} {lit l : L8} {ps : List Pt} {r : L8} (h : prsA d done lit l = .ok ps r) : r <:+ l := prs_suf _ _ _ _ _ _ _ h
theorem suf_drop {s : L8} {k : Nat} {r : L8} (h : r <:+ s.drop k) : r = s.drop (s.length - r.length) := by
 have h2 : r <:+ s := h.trans (List.drop_suffix _ _)
 exact List.suffix_iff_eq_drop.1 h2
end T13
end Go.Proofs.YtkcilmmaggmmoaaDoor
