/-
  The law PathsFamilies, walked.
-/
import Derived.Test.YthdojdkghhmfcaaQDln
import Derived.Test.YthdojdkghhmfcaaQDlf
import Derived.Test.YthdojdkghhmfcaaQSde
import Derived.Test.YthdojdkghhmfcaaQLwf
namespace Go.Proofs.Ythdojdkghhmfcaa
open Go.RowKit

set_option maxHeartbeats 1000000 in
theorem SameS_none (a b : Option Addr) (ca cb : Nat) (w : World) : Calls Try.prog 9 #[.slice a 0 ca, .slice b 0 cb] w fun e w' => e = .returned (.bool true) ∧ ∃ m, w' = w.drewN m := by
  go_enter Try.func9, Try.ntmps9
  go_wp2
  go_loopw [13] (fun q wr => q = .int .i64 0 ∧ Hid (∃ m, wr = w.drewN m)) (fun _ _ => 0)
  case atStart => exact ⟨rfl, 0, rfl⟩
  case round =>
    obtain ⟨rfl, HD⟩ := hrel
    go_wp2
    go_ret
    exact ⟨rfl, HD.out⟩
/-- Two lists of the same texts are the same. -/
theorem SameS_own {w : World} {v v' : Value} {tx : List (List UInt8)} (h1 : w.ownsRow 0 9 1 v (tx.map strV).length (tx.map strV)) (h2 : OwTx w 0 v' tx) (hl : tx.length ≤ 1000) : Calls Try.prog 9 #[v, v'] w fun e w' => e = .returned (.bool true) ∧ Hid (Below w.heap.size w w') := by
  obtain ⟨a, c, hv, -, hj⟩ := texts_use h1
  obtain ⟨a2, c2, hv2, -, hj2⟩ := texts_use h2
  subst hv hv2
  have fin : ∀ {P : Prop} {e : Ending} {w' : World}, (P ∧ ∃ m, w' = w.drewN m) → P ∧ Hid (Below w.heap.size w w') := fun ⟨q, m, hm⟩ => ⟨q, by rw [hm]; exact below_drewN (Below.refl _ _) m⟩
  by_cases h0 : tx.length = 0
  · rw [h0]
    exact (SameS_none a a2 c c2 w).mono fun e w' h => fin (e := e) h
  · obtain ⟨g, e1, -, -⟩ := hj 0 (by omega)
    obtain ⟨g2, e2, -, -⟩ := hj2 0 (by omega)
    subst e1 e2
    refine (SameS_at g g2 tx.length c c2 (fun i => ⟨(tx.getD i []).toArray⟩) w (fun i hi => ?_) (fun i hi => ?_) hl).mono fun e w' h => fin (e := e) h
    · obtain ⟨g', e', _, hc⟩ := hj i hi
      simp only [Option.some.injEq, Addr.mk.injEq, and_true] at e'
      rw [e']; exact hc
    · obtain ⟨g', e', _, hc⟩ := hj2 i hi
      simp only [Option.some.injEq, Addr.mk.injEq, and_true] at e'
      rw [e']; exact hc

/-- What the document's looking answers, whether there are starts or not. -/
def LkA (sn : Nat) (r : Bool × Nat × (Nat × List (List UInt8))) (k : Int) (fv : Value) (fd st : Int) (w' : World) : Prop := if sn = 0 then k = 1 ∧ fv = .slice none 0 0 ∧ fd = 0 ∧ st = 0 else k = (r.2.2.1 : Int) ∧ st = (r.2.1 : Int) ∧ (0 < fd ↔ 0 < r.2.2.1) ∧ OwTx w' 0 fv r.2.2.2
theorem Looked_any (gw gh : Int) (ba sa ea za : Option Addr) (n c sn sc en ec zn zc : Nat) (bs S E : List (Int × Int)) (zs : List Int) (w : World) (hn : n = bs.length) (hl : n ≤ 8796093021952) (hnn : ba = none → n = 0 ∧ c = 0) (hsn : sn = S.length) (hsc : sn ≤ sc) (hen : en = E.length) (hzn : zn = zs.length) (hz4 : zn ≤ 4) (hsz : sn ≤ zn) (hP : PtI w ba bs) (hS : PtI w sa S) (hE : PtI w ea E) (hZ : Shows w za zs) (hx : 0 = chkE gw gh (brO gw gh bs) S E) (hzb : ∀ i, i < sn → 0 ≤ zs.getD i 0 ∧ zs.getD i 0 < (en : Int)) :
    Calls Try.prog 8 #[.agg #[.int .i64 gw, .int .i64 gh, .slice ba n c], .slice sa sn sc, .slice ea en ec, .slice za zn zc, .int .i64 1000000] w fun e w' => ∃ (k : Int) (fv : Value) (fd st : Int), e = .returned (.tuple #[.int .i64 k, fv, .int .i64 fd, .int .i64 st]) ∧ Hid (LkA sn (runL (brC (brO gw gh bs)) (toN S) (wayE (zs.take sn) E)) k fv fd st w') ∧ Hid (Below w.heap.size w w') := by
  obtain ⟨h1, h2, h3, h4, h5, h6⟩ := chk_ok hx
  obtain ⟨m1, m2⟩ := ok_marks hx
  by_cases h0 : sn = 0
  · rw [h0]
    refine (Looked_none gw gh ba sa ea za n c sc en ec zn zc bs w hn hl hnn hP).mono ?_
    rintro e w' ⟨rfl, hb⟩
    exact ⟨1, .slice none 0 0, 0, 0, rfl, by show LkA _ _ _ _ _ _ _; unfold LkA; rw [if_pos rfl]; exact ⟨rfl, rfl, rfl, rfl⟩, hb⟩
  · refine (Looked_at gw gh ba sa ea za n c sn sc en ec zn zc bs S E zs w hn hl hnn hsn hsc (by omega) (by omega) hen (by omega) hzn hz4 hsz hP hS hE hZ h1 h2 h5 h6 m1 hzb (brC (brO gw gh bs)) m2 _ rfl).mono ?_
    rintro e w' ⟨fv, fd, rfl, q1, q2, hb⟩
    exact ⟨_, fv, (fd : Int), _, rfl, by
      show LkA _ _ _ _ _ _ _
      unfold LkA
      rw [if_neg h0]
      refine ⟨rfl, rfl, ?_, q2.out⟩
      have := q1.out
      omega, hb⟩

end Go.Proofs.Ythdojdkghhmfcaa
