/- VoteKinds: Kinds and Same return what the specification returns: the walk. -/
import Derived.Test.YtnnndooagpkgmaaWn
namespace Go.Proofs.Ytnnndooagpkgmaa
open Go Go.RowKit

theorem kinds_pair (q : Int) (n : Nat) (ws : List Int) (hl : ws.length = n) (hn : n ≤ 30) : ∃ x y z e : Int,
    (∀ a c W, Ints W a ws → Calls Try.prog 26 #[bodyV q a n c] W (Ret (.tuple #[.int .i64 x, .int .i64 y, .int .i64 z, .int .i64 e]) W)) ∧
    (∀ a c W, Ints W a ws → Calls Try.prog 27 #[bodyV q a n c] W (Ret (.tuple #[.int .i64 x, .int .i64 y, .int .i64 z, .int .i64 e]) W)) := by
  by_cases hB : BodyP q ws
  · exact ⟨_, _, _, 0, fun a c W h => Kinds_yes q a n c ws W h hl hB, fun a c W h => refKinds_yes q a n c ws W h hl hB⟩
  · exact ⟨0, 0, 0, 2, fun a c W h => Kinds_no q a n c ws W h hl hB, fun a c W h => refKinds_no q a n c ws W h hl hn hB⟩
theorem same_pair (q p : Int) (n m : Nat) (ws vs : List Int) (hl : ws.length = n) (hl' : vs.length = m) (hn : n ≤ 30) (hm : m ≤ 30) : ∃ (x : Bool) (e : Int),
    (∀ a c b d W, Ints W a ws → Ints W b vs → Calls Try.prog 28 #[bodyV q a n c, bodyV p b m d] W (Ret (.tuple #[.bool x, .int .i64 e]) W)) ∧
    (∀ a c b d W, Ints W a ws → Ints W b vs → Calls Try.prog 29 #[bodyV q a n c, bodyV p b m d] W (Ret (.tuple #[.bool x, .int .i64 e]) W)) := by
  by_cases hB : BodyP q ws
  · by_cases hB2 : BodyP p vs
    · by_cases hnm : n = m
      · subst hnm
        refine ⟨_, 0, fun a c b d W h h' => Same_yes q p a b n c n d ws vs W h hl h' hl' hB hB2, fun a c b d W h h' => ?_⟩
        have := refSame_eq q p a b n c d ws vs W h hl h' hl' hB hB2
        simpa only [true_and] using this
      · refine ⟨_, 0, fun a c b d W h h' => Same_yes q p a b n c m d ws vs W h hl h' hl' hB hB2, fun a c b d W h h' => ?_⟩
        rw [decide_eq_false (fun h => hnm h.1)]
        exact refSame_len q p a b n c m d ws vs W h hl h' hl' hB hB2 hnm
    · exact ⟨false, 2, fun a c b d W h h' => Same_no2 q p a b n c m d ws vs W h hl h' hl' hB hB2, fun a c b d W h h' => refSame_no2 q p a b n c m d ws vs W h hl h' hl' hn hm hB hB2⟩
  · exact ⟨false, 2, fun a c b d W h h' => Same_no1 q p a b n c m d ws vs W h hl h' hl' hB, fun a c b d W h h' => refSame_no1 q p a b n c m d ws W h hl hn hB⟩
set_option maxRecDepth 100000 in
set_option maxHeartbeats 8000000 in
theorem kinds_any (q : Int) (a : Option Addr) (n c : Nat) (ws : List Int) (p : Int) (b : Option Addr) (m d : Nat) (vs : List Int) (w : World) (h : Ints w a ws) (hl : ws.length = n) (_hnc : n ≤ c) (_hnil : a = none → c = 0)
    (h' : Ints w b vs) (hl' : vs.length = m) (_hmd : m ≤ d) (_hnil' : b = none → d = 0) :
    Calls Try.prog 5 #[bodyV q a n c, bodyV p b m d] w (Ret (.bool true) w) := by
  have F := Lib.hid (fun W => few_any q a n c W)
  have F' := Lib.hid (fun W => few_any p b m d W)
  have X := Lib.hid (two_box w #[.int .i64 q, .slice a n c] #[.int .i64 p, .slice b m d] 24 24)
  have U := Lib.hid ((Blk.new w 24 #[.int .i64 q, .slice a n c]).alloc (.cells #[.int .i64 p, .slice b m d] 24))
  by_cases h30 : n ≤ 30
  · rw [decide_eq_true h30] at F
    by_cases k30 : m ≤ 30
    · rw [decide_eq_true k30] at F'
      obtain ⟨x, y, z, e0, K1, K2⟩ := kinds_pair q n ws hl h30
      obtain ⟨t, e1, S1, S2⟩ := same_pair q p n m ws vs hl hl' h30 k30
      have hx : (x != x) = false := by simp
      have hy : (y != y) = false := by simp
      have hz : (z != z) = false := by simp
      have he : (e0 != e0) = false := by simp
      have ht : (t == t) = true := by simp
      have he1 : (e1 == e1) = true := by simp
      replace K1 := Lib.hid K1
      replace K2 := Lib.hid K2
      replace S1 := Lib.hid S1
      replace S2 := Lib.hid S2
      replace h := Lib.hid h
      replace h' := Lib.hid h'
      clear hl hl'
      go_enter Try.func5, Try.ntmps5
      have y0 := X.out.c 0 rfl
      have y1 := X.out.c 1 rfl
      have y2 := X.out.lt
      have z0 := U.out.c 0 rfl
      have z1 := U.out.c 1 rfl
      have k0 := b2 w (.cells #[.int .i64 q, .slice a n c] 24) (.cells #[.int .i64 p, .slice b m d] 24)
      replace k0 := Lib.hid k0
      go_wp2_with (first
        | (go_at_call 15; (with_reducible refine (F.out _).mono ?_); rintro e w1 ⟨rfl, hb1⟩; replace X := Lib.hid (X.out.ext hb1); replace U := Lib.hid (U.out.ext hb1); replace k0 := Lib.hid (nextB k0.out hb1); clear y0 y1 y2 z0 z1; have y0 := X.out.c 0 rfl; have y1 := X.out.c 1 rfl; have z0 := U.out.c 0 rfl; have z1 := U.out.c 1 rfl)
        | (go_at_call 15; (with_reducible refine (F'.out _).mono ?_); rintro e w2 ⟨rfl, hb2⟩; replace X := Lib.hid (X.out.ext hb2); replace U := Lib.hid (U.out.ext hb2); replace k0 := Lib.hid (nextB k0.out hb2); clear y0 y1 z0 z1; have y0 := X.out.c 0 rfl; have y1 := X.out.c 1 rfl; have z0 := U.out.c 0 rfl; have z1 := U.out.c 1 rfl)
        | (go_at_call 26; refine (K1.out _ _ _ (h.out.next k0.out)).mono ?_; rintro e w3 ⟨rfl, hb3⟩; replace X := Lib.hid (X.out.ext hb3); replace U := Lib.hid (U.out.ext hb3); replace k0 := Lib.hid (nextB k0.out hb3); clear y0 y1 z0 z1; have y0 := X.out.c 0 rfl; have y1 := X.out.c 1 rfl; have z0 := U.out.c 0 rfl; have z1 := U.out.c 1 rfl)
        | (go_at_call 27; refine (K2.out _ _ _ (h.out.next k0.out)).mono ?_; rintro e w4 ⟨rfl, hb4⟩; replace X := Lib.hid (X.out.ext hb4); replace U := Lib.hid (U.out.ext hb4); replace k0 := Lib.hid (nextB k0.out hb4); clear y0 y1 z0 z1; have y0 := X.out.c 0 rfl; have y1 := X.out.c 1 rfl; have z0 := U.out.c 0 rfl; have z1 := U.out.c 1 rfl)
        | (go_at_call 28; refine (S1.out _ _ _ _ _ (h.out.next k0.out) (h'.out.next k0.out)).mono ?_; rintro e w5 ⟨rfl, hb5⟩; replace X := Lib.hid (X.out.ext hb5); replace U := Lib.hid (U.out.ext hb5); replace k0 := Lib.hid (nextB k0.out hb5); clear y0 y1 z0 z1; have y0 := X.out.c 0 rfl; have y1 := X.out.c 1 rfl; have z0 := U.out.c 0 rfl; have z1 := U.out.c 1 rfl)
        | (go_at_call 29; refine (S2.out _ _ _ _ _ (h.out.next k0.out) (h'.out.next k0.out)).mono ?_; rintro e w6 ⟨rfl, hb6⟩; replace k0 := Lib.hid (nextB k0.out hb6); clear y0 y1 z0 z1)
        | (go_at_call 16; refine (alive_any _).mono ?_; rintro e w7 ⟨rfl, hb7⟩))
      go_ret
      exact Ret.mk rfl (nextB k0.out hb7)
    · rw [decide_eq_false k30] at F'
      clear hl hl'
      go_enter Try.func5, Try.ntmps5
      go_wp2_with (first
        | (go_at_call 15; (with_reducible refine (F.out _).mono ?_); rintro e w1 ⟨rfl, hb1⟩; have y0 := (X.out.ext hb1).c 0 rfl; have y1 := (X.out.ext hb1).c 1 rfl)
        | (go_at_call 15; (with_reducible refine (F'.out _).mono ?_); rintro e w2 ⟨rfl, hb2⟩)
        | (go_at_call 16; refine (alive_any _).mono ?_; rintro e w3 ⟨rfl, hb3⟩))
      go_ret
      exact Ret.mk rfl (nextB (b2 _ _ _) (nextB hb1 (nextB hb2 hb3)))
  · rw [decide_eq_false h30] at F
    clear hl hl'
    go_enter Try.func5, Try.ntmps5
    go_wp2_with (first
      | (go_at_call 15; refine (F.out _).mono ?_; rintro e w1 ⟨rfl, hb1⟩)
      | (go_at_call 16; refine (alive_any _).mono ?_; rintro e w2 ⟨rfl, hb2⟩))
    go_ret
    exact Ret.mk rfl (nextB (b2 _ _ _) (nextB hb1 hb2))
end Go.Proofs.Ytnnndooagpkgmaa
