/-
  paths.look.begin, where a path begins; the four together.
-/
import Derived.Test.YtapchcamjeafmaaDoorQLev
namespace Go.Proofs.YtapchcamjeafmaaDoor
open Go.RowKit

set_option maxHeartbeats 8000000 in
set_option maxRecDepth 100000 in
theorem begin_at {Φ : Type} {V : Env} (hV : V.ok) {R : World → (Nat → Prop) → Φ → Prop} {lv : Φ → Prop} {fnd : Φ → List (List UInt8) → Bool × Φ} {f : Nat} (HE : Hid (EntC V R lv fnd f)) : BegC V R lv fnd f := by
  intro i w cl vs tx st φ hI hlv hi hst hfu htl
  have HV : Hid V.ok := hV
  have HI : Hid (InV V R w cl vs tx st φ) := hI
  obtain ⟨n, HN⟩ : ∃ n, Hid (n = V.S.length) := ⟨_, rfl⟩
  have hin : i < n := by rw [HN.out]; exact hi
  have hin' : ((i : Int) == (n : Int)) = false := by rw [beq_eq_false_iff_ne]; omega
  have hn4 : n ≤ 4 := by rw [HN.out]; exact hV.2.2.2.1
  obtain ⟨G, HG⟩ : ∃ G, Hid (G = V.G) := ⟨_, rfl⟩
  obtain ⟨sx, sy, HSs⟩ : ∃ sx sy, Hid (ptD V.S i = (sx, sy)) := ⟨_, _, rfl⟩
  have hsx : sx < 8 := by have := (hV.2.2.2.2 i hi).1; rw [HSs.out] at this; exact this
  have hsy : sy < 8 := by have := (hV.2.2.2.2 i hi).2.1; rw [HSs.out] at this; exact this
  obtain ⟨ea, ec, hev, hec, hej⟩ := hI.2.1
  obtain ⟨eb, eo, hea, hefx, k0, k1⟩ := hej i hi
  subst hea
  rw [← HN.out] at hev hec
  rw [HSs.out] at k0 k1
  have c0 : w.cell? ⟨G, 0, none⟩ = some (.slice (some ⟨eb, eo, none⟩) n ec) := by rw [HG.out, hI.1.cell 0 (by omega), ← hev]; rfl
  obtain ⟨r, HRr⟩ : ∃ r, Hid (r = goF V.S V.E fnd f i (sx, sy) cl tx st φ) := ⟨_, rfl⟩
  have HC : Hid (Calls Tryd.prog 29 #[.pointer (some ⟨G, 0, none⟩), .int .i64 (i : Int), .agg #[.int .i64 (sx : Int), .int .i64 (sy : Int)]] w (AnsV V R lv r w vs cl tx)) := by
    rw [HG.out, HRr.out]
    exact HE.out i (sx, sy) w cl vs tx st φ hI hlv hi hsx hsy hst (by rw [fuS_step _ _ _ hi, HSs.out] at hfu; exact hfu) htl
  rw [HSs.out, ← HRr.out, ← HG.out]
  clear hI hlv hi hst hfu htl hej hV
  go_enter Tryd.func23, Tryd.ntmps23
  go_wp2_with fail
  refine HC.out.mono ?_
  rintro e w3 ⟨rfl, vs3, HI3, HF3, HL3⟩
  obtain ⟨rb, s3, φ3⟩ := r
  go_wp2
  go_ret
  exact ⟨rfl, vs3, HI3, HF3, HL3⟩

theorem enter_all {Φ : Type} {V : Env} (hV : V.ok) {R : World → (Nat → Prop) → Φ → Prop} (hR : StaR R) {lv : Φ → Prop} {fnd : Φ → List (List UInt8) → Bool × Φ} (HEn : Hid (EndC V R lv fnd)) : ∀ f, EntC V R lv fnd f
  | 0 => fun i p w cl vs tx st φ _ _ _ _ _ _ hfu _ => by unfold fuN at hfu; omega
  | f + 1 => enter_at hV hR (hid_w (leave_at hV hR (hid_w (step_at hV hR (hid_w (enter_all hV hR HEn f)))) (hid_w (begin_at hV (hid_w (enter_all hV hR HEn f)))) HEn))

end Go.Proofs.YtapchcamjeafmaaDoor
