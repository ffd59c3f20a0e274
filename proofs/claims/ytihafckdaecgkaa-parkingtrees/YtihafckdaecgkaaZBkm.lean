/-
  Codes and lists of cars: there and back (plain).
-/
import Derived.Test.YtihafckdaecgkaaZRop
import Derived.Test.YtihafckdaecgkaaZCof
import Derived.Test.YtihafckdaecgkaaZUnr
import Derived.Test.YtihafckdaecgkaaZEdg
namespace Go.Proofs.Ytihafckdaecgkaa
open Go.RowKit

theorem ed_tst {c es : List Int} {L : List (Int × Int)} (h1 : Ed es L) (h2 : Ed (tst c) L) (hl : es.length = c.length + 3) : es = tst c := by
  refine ext_getD (by rw [hl, tst_length]) (fun v hv => ?_)
  rw [h1 v hv, h2 v (by rw [tst_length]; omega)]
/-- Code of what Tree makes. -/
theorem tree_code {c : List Int} {M X : List (Int × Int)} (hc : inIv c 1 ((c.length + 2 : Nat) : Int) = true) (hM : TrR (tst c) c M) (hX : X.Perm M) :
    X.length = c.length + 1 ∧ Tr (rgV 1 (c.length + 2)) X ∧ ∀ es d, Ed es X → es.length = X.length + 2 → CdR es d X → d = c := by
  have hs := St_start (c := c) (fun z hz => by have := inIv_iff.1 hc z hz; omega)
  obtain ⟨h1, h2⟩ := tr_tree hs hM
  have hl : X.length = c.length + 1 := by rw [hX.length_eq]; exact hM.len
  refine ⟨hl, h1.perm hX.symm, fun es d he hel hd => ?_⟩
  have h2' : Ed (tst c) X := fun v hv => by rw [h2 v hv, dg_perm hX]
  have e := ed_tst he h2' (by omega)
  subst e
  exact cd_uniq hs hM hX hd
/-- Tree of what Code makes. -/
theorem code_tree {n : Nat} {c es : List Int} {L : List (Int × Int)} (hn : n = L.length) (hT : Tr (rgV 1 (n + 1)) L) (hE : Ed es L) (hl : es.length = n + 2) (hc : CdR es c L) :
    c.length + 1 = n ∧ inIv c 1 ((c.length + 2 : Nat) : Int) = true ∧ ∀ M, TrR (tst c) c M → M.Perm (L.map nrm) := by
  have hcl : c.length + 1 = n := by rw [hn, hc.len]
  have hV : VB (rgV 1 (n + 1)) es := fun v hv => by have := mem_rgV.1 hv; omega
  obtain ⟨h1, h2⟩ := cd_count hT hE hV hc
  have hmem : ∀ z ∈ c, z ∈ rgV 1 (n + 1) := fun z hz => by
    by_cases e : z ∈ rgV 1 (n + 1)
    · exact e
    · have := h2 z e
      have := List.count_pos_iff.2 hz
      omega
  refine ⟨hcl, inIv_iff.2 (fun z hz => by have := mem_rgV.1 (hmem z hz); omega), fun M hM => ?_⟩
  have e : es = tst c := by
    refine ext_getD (by rw [hl, tst_length]; omega) (fun v hv => ?_)
    rw [hE v hv]
    unfold tst
    rw [tab_getD _ _ _ (by omega)]
    by_cases h0 : v = 0
    · subst h0
      rw [if_pos rfl]
      have hz : dg L ((0 : Nat) : Int) = 0 := by
        have : ∀ (K : List (Int × Int)), (∀ e ∈ K, e ∈ L) → dg K ((0 : Nat) : Int) = 0 := by
          intro K
          induction K with
          | nil => intro _; rfl
          | cons e K ih =>
            intro hK
            have hb := hT.2.2.1 e (hK e (by simp))
            have g1 := mem_rgV.1 hb.1
            have g2 := mem_rgV.1 hb.2
            rw [dg_cons, if_neg (by omega), if_neg (by omega), ih (fun e he => hK e (by simp [he]))]
        exact this L (fun _ h => h)
      omega
    · rw [if_neg h0]
      have := h1 (v : Int) (mem_rgV.2 (by omega))
      omega
  subst e
  exact cd_tr hT hE hV hc hM
theorem tree_three {M : List (Int × Int)} (h : TrR (tst [3]) [3] M) : M.Perm [(1, 3), (2, 3)] := by
  have hT : Tr (rgV 1 3) [((1 : Int), (3 : Int)), (2, 3)] := (itr_tr (f := 1) (n := 2) rfl).1 (by decide)
  have hE : Ed (tst [3]) [((1 : Int), (3 : Int)), (2, 3)] := fun v hv => by
    have hv' : v < 4 := by simpa [tst_length] using hv
    rcases v with _ | _ | _ | _ | v
    · decide
    · decide
    · decide
    · decide
    · omega
  have hc : CdR (tst [3]) [3] [((1 : Int), (3 : Int)), (2, 3)] :=
    ⟨1, (1, 3), [], [(2, 3)], ⟨by decide, by decide, by decide⟩, rfl, Or.inl ⟨rfl, rfl⟩, rfl⟩
  exact (code_tree (n := 2) rfl hT hE (by decide) hc).2.2 M h

theorem lin_same {D F : Nat → Int} {n : Nat} (h : ∀ t, t < n → D t = F t) : ∀ k, lin D n k = lin F n k ∧ trl D n k = trl F n k
  | 0 => ⟨rfl, rfl⟩
  | k + 1 => by
    obtain ⟨h1, h2⟩ := lin_same h k
    have h3 : addc D ((k : Int) + 1) n = addc F ((k : Int) + 1) n := addc_congr (fun t ht => by rw [h t ht])
    simp only [lin, trl]
    rw [h1, h2, h3]
    exact ⟨rfl, rfl⟩
/-- Unrooted of what Rooted makes. -/
theorem root_un {n : Nat} {zs : List Int} {X : List (Int × Int)} (hn : n = zs.length) (hL : Long (dOf zs) n) (hX : X.Perm (trl (dOf zs) n n)) :
    X.length = n ∧ Tr (rgV 0 (n + 1)) X ∧ ∀ D line, UI n (jnU X) D line n 0 → tab n D = zs := by
  have hT := (trl_tree hL (Nat.le_refl n)).1
  refine ⟨by rw [hX.length_eq]; exact trl_len hL, (hT.permV (lin_V hL)).perm hX.symm, fun D line hU => ?_⟩
  have h := un_root hL hX (jnU_je X) hU
  refine ext_getD (by rw [tab_length, hn]) (fun t ht => ?_)
  rw [tab_length] at ht
  rw [tab_getD _ _ _ ht, h t ht]; rfl
/-- Rooted of what Unrooted makes. -/
theorem un_rooted {n : Nat} {D : Nat → Int} {line : List Int} {L : List (Int × Int)} (hn : n = L.length) (h20 : n ≤ 20) (hU : UI n (jnU L) D line n 0) :
    plC (tab n D) ((tab n D).length) = 0 ∧ Free (lk (tab n D)) (tab n D).length ∧ ∀ X : List (Int × Int), X.Perm (trl (dOf (tab n D)) n n) → X.Perm (L.map nrm) := by
  obtain ⟨hL, hP⟩ := un_back hU (jnU_je L) hn
  have hb := lin_all hL
  have hd : ∀ t, t < n → dOf (tab n D) t = D t := fun t ht => tab_getD _ _ _ ht
  have hz : ∀ z ∈ tab n D, 1 ≤ z ∧ z ≤ ((tab n D).length : Int) := fun z hz => by
    obtain ⟨j, hj, rfl⟩ := tab_mem hz
    rw [tab_length]
    exact hb j hj
  have hpl : plC (tab n D) ((tab n D).length) = 0 := plC_ok.2 ⟨by rw [tab_length]; exact h20, hz⟩
  have hlk : (lk (tab n D)).length = n := by rw [lk_length, tab_length]
  have hLd : Long (dOf (tab n D)) n := fun k hk => by rw [(lin_same hd k).1]; exact hL k hk
  refine ⟨hpl, ?_, fun X hX => ?_⟩
  · have h1 := lk_getD hz
    have := long_free h1 (by rw [hlk]; exact hLd)
    rw [hlk] at this
    rw [tab_length]; exact this
  · rw [(lin_same hd n).2] at hX
    exact hX.trans hP
end Go.Proofs.Ytihafckdaecgkaa
