/-
  What InsertMirror asks, in plain lists.
-/
import Derived.Test.YtampjdebnaapaaeISym
import Derived.Test.YtampjdebnaapaaeIMak
import Derived.Test.YtampjdebnaapaaeIInv
import Derived.Test.YtampjdebnaapaaeITrn
import Derived.Test.YtampjdebnaapaaeIBack
namespace Go.Proofs.Ytampjdebnaapaae
open Go.RowKit

theorem numW_asc (zs : List Int) : Asc (numW zs) := by
  unfold Asc numW
  rw [List.pairwise_map]
  exact List.Pairwise.imp (fun {a b} hab => by show (a : Int) + 1 < (b : Int) + 1; omega) (List.pairwise_lt_range (n := zs.length))
theorem numW_snds (zs : List Int) : (numW zs).map Prod.snd = zs := by
  refine ext_getD (by rw [List.length_map, numW_length]) (fun j hj => ?_)
  rw [List.length_map, numW_length] at hj
  simp [numW, List.getD, hj]
theorem put_fst : ∀ (l : List (Int × Int)) (s : List (List Int) × List (List Int)), (l.foldl put1 s).1 = insW s.1 (l.map Prod.snd) := by
  intro l
  induction l with
  | nil => intro s; rfl
  | cons c l ih => intro s; rw [List.foldl_cons, ih, List.map_cons, insW_cons]; rfl
theorem P_word (zs : List Int) : (mk (numW zs)).1 = insW [] zs := by unfold mk; rw [put_fst, numW_snds]
theorem mem_numW {zs : List Int} {c : Int × Int} : c ∈ numW zs ↔ ∃ i, i < zs.length ∧ c = ((i : Int) + 1, zs.getD i 0) := by
  unfold numW
  rw [List.mem_map]
  exact ⟨fun ⟨i, hi, e⟩ => ⟨i, List.mem_range.1 hi, e.symm⟩, fun ⟨i, hi, e⟩ => ⟨i, List.mem_range.2 hi, e.symm⟩⟩
theorem numW_inv {zs : List Int} (hp : IsPerm zs) : (numW (invL zs)).Perm ((numW zs).map (fun c => (c.2, c.1))) := by
  have hI := invL_inv hp
  have hn := invL_length zs
  rw [List.perm_ext_iff_of_nodup]
  · intro c
    rw [mem_numW, List.mem_map]
    constructor
    · rintro ⟨i, hi, rfl⟩
      rw [hn] at hi
      obtain ⟨j, hj, ej⟩ := hp.place hi
      have e := hI.2 j hj
      rw [ej, show ((i : Int) + 1).toNat - 1 = i by omega] at e
      exact ⟨((j : Int) + 1, zs.getD j 0), mem_numW.2 ⟨j, hj, rfl⟩, by rw [e, ej]⟩
    · rintro ⟨d, hd, rfl⟩
      obtain ⟨j, hj, rfl⟩ := mem_numW.1 hd
      have b := hp.bounds hj
      have e := hI.2 j hj
      exact ⟨(zs.getD j 0).toNat - 1, by omega, Prod.ext (by show zs.getD j 0 = (((zs.getD j 0).toNat - 1 : Nat) : Int) + 1; omega) e.symm⟩
  · exact (numW_asc _).imp (fun {a b} h e => by rw [e] at h; omega)
  · rw [List.nodup_iff_pairwise_ne, List.pairwise_map]
    exact (numW_asc zs).imp (fun {a b} h e => by simp only [Prod.mk.injEq] at e; omega)
theorem mirror_swap {zs : List Int} (hp : IsPerm zs) : mk (numW (invL zs)) = ((mk (numW zs)).2, (mk (numW zs)).1) :=
  mk_swap _ _ _ rfl (numW_asc _) (numW_asc _) (numW_inv hp)
theorem mirror_rev {zs : List Int} (hp : IsPerm zs) : (mk (numW zs.reverse)).1 = cols (mk (numW zs)).1 := by
  rw [P_word, P_word, insW_rev zs hp.once]

theorem perm_lchk {zs : List Int} (hp : IsPerm zs) : lchk zs = 0 := lchk_ok.2 ⟨hp.len, fun z hz => ⟨hp.low z hz, by have := hp.high z hz; have := hp.len; omega⟩⟩
theorem inv_lchk {zs : List Int} (hp : IsPerm zs) : lchk (invL zs) = 0 := by
  refine lchk_ok.2 ⟨by rw [invL_length]; exact hp.len, fun z hz => ?_⟩
  have hz2 : z ∈ (numW (invL zs)).map Prod.snd := by rw [numW_snds]; exact hz
  obtain ⟨c, hc, rfl⟩ := List.mem_map.1 hz2
  obtain ⟨d, hd, rfl⟩ := List.mem_map.1 ((numW_inv hp).mem_iff.1 hc)
  obtain ⟨j, hj, rfl⟩ := mem_numW.1 hd
  have := hp.len
  show 1 ≤ (j : Int) + 1 ∧ (j : Int) + 1 ≤ 99
  omega
theorem rev_lchk {zs : List Int} (hp : IsPerm zs) : lchk zs.reverse = 0 := by
  have h := lchk_ok.1 (perm_lchk hp)
  exact lchk_ok.2 ⟨by rw [List.length_reverse]; exact h.1, fun z hz => h.2 z (List.mem_reverse.1 hz)⟩

theorem mk_tabs {zs : List Int} (h : lchk zs = 0) : IsTab (mk (numW zs)).1 := by
  obtain ⟨h1, h2⟩ := lchk_ok.1 h
  obtain ⟨hm, _, _⟩ := mk_made _ (numW zs) rfl (numW_asc zs).ordered
  obtain ⟨hl1, hl2⟩ := mk_letters _ (numW zs) rfl
  refine hm.tp.isTab (by rw [hl2, numW_length]; exact h1) (fun z hz => ?_)
  have := hl1 z hz
  rw [numW_snds] at this
  exact h2 z this
theorem mirror_trn {zs : List Int} (hp : IsPerm zs) : TrnR (mk (numW zs)).1 0 (cols (mk (numW zs)).1) := by
  have t1 := mk_tabs (perm_lchk hp)
  have t2 := mk_tabs (rev_lchk hp)
  rw [mirror_rev hp] at t2
  exact ⟨fun _ => ⟨fun _ => ⟨rfl, rfl⟩, fun h => absurd (tchk_ok.2 t2) h⟩, fun h => absurd (tchk_ok.2 t1) h⟩
end Go.Proofs.Ytampjdebnaapaae
