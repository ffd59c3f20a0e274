/-
  ferrersbig.div: all of it (neither is 0).
-/
import Derived.Test.YthfbkangjpcpgaaDoorADiv
namespace Go.Proofs.YthfbkangjpcpgaaDoor
open Go.RowKit

theorem DivR.to {w : World} {x y k n : Nat} {e : Ending} {w' : World} (h : DivR w x y k e w') (hx : x < 4294967296 ^ n) : DivR w x y n e w' := by
  obtain ⟨v1, us1, v2, us2, h1, h2, h3, h4, h5, h6⟩ := h
  exact ⟨v1, us1, v2, us2, h1, h2, h3, num_len h2.num (Nat.lt_of_le_of_lt (Nat.div_le_self _ _) hx), num_len h3.num (Nat.lt_of_le_of_lt (Nat.mod_le _ _) hx), h6⟩

theorem div_at (a b : Option Addr) (ca cb n m : Nat) (xs ys : List Nat) (x y : Nat) (w : World) (ha : ShowsW w a ca xs) (hb : ShowsW w b cb ys) (hn : n = xs.length) (hm : m = ys.length) (hx : Num xs x) (hy : Num ys y) (hx0 : 0 < x) (hy0 : 0 < y) (hf : n ≤ 400000) :
    Calls Tryd.prog 52 #[.slice a n ca, .slice b m cb] w (DivR w x y n) := by
  have h1 := num_pos_len hy hm hy0
  rcases Nat.lt_or_ge x y with h | h
  · exact div_less a b ca cb n m xs ys x y w ha hb hn hm hx hy hx0 h
  · rcases Nat.lt_or_ge 2 n with h2 | h2
    · rcases Nat.lt_or_ge m 2 with h3 | h3
      · obtain rfl : m = 1 := by omega
        exact div_word a b ca cb n xs ys x y w ha hb hn hm hx hy hy0 h h2
      · exact div_long a b ca cb n m xs ys x y w ha hb hn hm hx hy h h2 h3 hf
    · refine (div_two a b ca cb n m xs ys x y w ha hb hn hm hx hy hy0 h h2).mono ?_
      intro e w' h4
      exact h4.to (by rw [← hx.eq, hn]; exact val_lt _ hx.wd)

end Go.Proofs.YthfbkangjpcpgaaDoor
