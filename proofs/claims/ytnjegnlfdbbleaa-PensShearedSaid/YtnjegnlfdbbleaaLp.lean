/- PensPens: IsPen, Area and Convex return the judgements, the number and the errors of the specification: the walk. -/
import Derived.Test.YtnjegnlfdbbleaaPc
import Derived.Laws.AppendOwnNone
namespace Go.Proofs.Ytnjegnlfdbbleaa
open Go Go.RowKit Go.Shelf

theorem owns_any {w : World} {base n : Nat} {e : TypeId} {v : Value} {p : Nat → Int × Int} (h : w.ownsRow base e 2 v n (cellsOf p n)) : ∃ a c, v = .slice a n c ∧ Pts w a n p := by
  rcases id h.2 with ⟨rfl, h0⟩ | ⟨g, cap, _, rfl, _⟩
  · subst h0; exact ⟨none, 0, rfl, .inl rfl⟩
  · exact ⟨_, cap, rfl, .inr ⟨g, 0, rfl, fun i hi => owns_pts h i hi⟩⟩
theorem pts_news {w : World} {ad : Addr} {n : Nat} {p : Nat → Int × Int} (h : Pts w (some ad) n p) : ∀ j u, (cellsOf p n)[j]? = some u → w.cell? (ad.add j) = some u := by
  rcases h with h | ⟨b, off, e, hc⟩
  · subst h; intro j u hj; simp [cellsOf] at hj
  · cases e
    exact cellsOf_get p n b off w hc
theorem cells_one (p : Nat → Int × Int) (n : Nat) : ∀ u ∈ cellsOf p n, u.oneCell' = true := by
  intro u hu
  simp only [cellsOf, List.mem_flatMap, List.mem_cons, List.not_mem_nil, or_false] at hu
  obtain ⟨i, _, h | h⟩ := hu <;> (subst h; rfl)
/-- What the law's calls answer, of the copy and of the list: the same. -/
structure SameAns (n : Nat) (p : Nat → Int × Int) (w : World) (a a' : Option Addr) (c c' : Nat) : Prop where
  i1 : ∀ W, Below w.heap.size w W → Calls Try.prog 14 #[.slice a' n c'] W (Ret (.bool (decide (PenP n p))) W)
  i2 : ∀ W, Below w.heap.size w W → Calls Try.prog 15 #[.slice a n c] W (Ret (.bool (decide (PenP n p))) W)
  s : ∀ W, Below w.heap.size w W → Calls Try.prog 20 #[.slice a' n c', .slice a n c] W (Ret (.bool true) W)
  all : ∃ (A E : Int) (B : Bool), (∀ W, Below w.heap.size w W → Calls Try.prog 16 #[.slice a' n c'] W (Ret (.tuple #[.int .i64 A, .int .i64 E]) W)) ∧
    (∀ W, Below w.heap.size w W → Calls Try.prog 17 #[.slice a n c] W (Ret (.tuple #[.int .i64 A, .int .i64 E]) W)) ∧
    (∀ W, Below w.heap.size w W → Calls Try.prog 18 #[.slice a' n c'] W (Ret (.tuple #[.bool B, .int .i64 E]) W)) ∧
    (∀ W, Below w.heap.size w W → Calls Try.prog 19 #[.slice a n c] W (Ret (.tuple #[.bool B, .int .i64 E]) W))
theorem sameAns (n : Nat) (p : Nat → Int × Int) (w : World) (a a' : Option Addr) (c c' : Nat) (hn : n ≤ 60) (h : Pts w a n p) (h' : Pts w a' n p) : SameAns n p w a a' c c' := by
  have hm : n ≤ 4611686018427387904 := by omega
  refine ⟨fun W hb => IsPen_any _ _ _ p W hm (h'.next hb), fun W hb => isPen_any _ _ _ p W hm (h.next hb), fun W hb => ?_, ?_⟩
  · have := same_any a' a n n c' c p p W hm hm (h'.next hb) (h.next hb)
    rwa [decide_eq_true (show SameP n n p p from ⟨rfl, fun _ _ => rfl⟩)] at this
  · by_cases hp : PenP n p
    · refine ⟨areaI n p, 0, convB n p, fun W hb => Area_yes _ _ _ p W hm (h'.next hb) hp, fun W hb => refArea_yes _ _ _ p W hm (h.next hb) hp, fun W hb => ?_, fun W hb => ?_⟩
      · have := ConvexE a' n c' p W hm (h'.next hb)
        rwa [if_pos hp, flat_conv n p (by have := hp.1; omega)] at this
      · have := refConvexE a n c p W hm (h.next hb)
        rwa [if_pos hp] at this
    · refine ⟨0, 2, false, fun W hb => Area_no _ _ _ p W hm (h'.next hb) hp, fun W hb => refArea_no _ _ _ p W hm (h.next hb) hp, fun W hb => ?_, fun W hb => ?_⟩
      · have := ConvexE a' n c' p W hm (h'.next hb)
        rwa [if_neg hp] at this
      · have := refConvexE a n c p W hm (h.next hb)
        rwa [if_neg hp] at this

set_option maxRecDepth 100000 in
set_option maxHeartbeats 4000000 in
theorem pens_any (a : Option Addr) (n c : Nat) (p : Nat → Int × Int) (w : World) (h : Pts w a n p) (hcap : a = none → c = 0) :
    Calls Try.prog 3 #[.slice a n c] w (Ret (.bool true) w) := by
  have HF := fun w => few_any a n c w
  by_cases hn : n ≤ 60
  · simp only [decide_eq_true hn] at HF
    replace HF := Lib.hid HF
    obtain ⟨i0, hi, hz0, hz1, hz2⟩ := info_parts infoPt
    have G0 := Lib.hid hi
    have G1 := Lib.hid hz0
    have G2 := Lib.hid hz1
    have G3 := Lib.hid hz2
    clear hi hz0 hz1 hz2
    have h := Lib.hid h
    cases a with
    | none =>
      have h0 : n = 0 := by
        rcases h.out with h | ⟨b, off, e, _⟩
        · exact h
        · cases e
      subst h0
      obtain rfl := hcap rfl
      clear hcap
      go_enter Try.func3, Try.ntmps3
      go_wp2_with fail
      refine (HF.out _).mono ?_
      rintro e w1 ⟨rfl, hb1⟩
      dsimp only
      go_wp2_with (first
        | (at_builtin; go_loud (refine wpList_append_own_none rfl _ _ 22 rfl w1.heap.size 32 i0 2 Try.underlying22 G0.out _ 0 [] rfl (World.ownsRow_made w1 #[] 0 (Nat.le_refl _) (by decide) rfl) rfl ?_; have hb2 : Below w1.heap.size w1 (w1.alloc (.cells #[] 32)) := b1 _ _; obtain ⟨q1, q2, q3, A, E, B, q4, q5, q6, q7⟩ := sameAns 0 p (w1.alloc (.cells #[] 32)) none (some ⟨w1.heap.size, 0, none⟩) 0 0 hn (.inl rfl) (.inl rfl); have hb3 : Below (w1.alloc (.cells #[] 32)).heap.size (w1.alloc (.cells #[] 32)) (w1.alloc (.cells #[] 32)) := Below.refl _ _; have Q1 := Lib.hid q1; have Q2 := Lib.hid q2; have Q3 := Lib.hid q3; have Q4 := Lib.hid q4; have Q5 := Lib.hid q5; have Q6 := Lib.hid q6; have Q7 := Lib.hid q7; clear q1 q2 q3 q4 q5 q6 q7))
        | (go_at_call 14; refine (Q1.out _ hb3).mono ?_; rintro e w4 ⟨rfl, hb4⟩; replace hb3 := nextB hb3 hb4; clear hb4)
        | (go_at_call 15; refine (Q2.out _ hb3).mono ?_; rintro e w4 ⟨rfl, hb4⟩; replace hb3 := nextB hb3 hb4; clear hb4)
        | (go_at_call 20; refine (Q3.out _ hb3).mono ?_; rintro e w4 ⟨rfl, hb4⟩; replace hb3 := nextB hb3 hb4; clear hb4)
        | (go_at_call 16; refine (Q4.out _ hb3).mono ?_; rintro e w4 ⟨rfl, hb4⟩; replace hb3 := nextB hb3 hb4; clear hb4)
        | (go_at_call 17; refine (Q5.out _ hb3).mono ?_; rintro e w4 ⟨rfl, hb4⟩; replace hb3 := nextB hb3 hb4; clear hb4)
        | (go_at_call 18; refine (Q6.out _ hb3).mono ?_; rintro e w4 ⟨rfl, hb4⟩; replace hb3 := nextB hb3 hb4; clear hb4)
        | (go_at_call 19; refine (Q7.out _ hb3).mono ?_; rintro e w4 ⟨rfl, hb4⟩; replace hb3 := nextB hb3 hb4; clear hb4)
        | (go_at_call 13; refine (alive_any _).mono ?_; rintro e w4 ⟨rfl, hb4⟩; replace hb3 := nextB hb3 hb4; clear hb4)
        | fail)
      go_ret
      exact Ret.mk rfl (nextB hb1 (nextB hb2 hb3))
    | some ad =>
      clear hcap
      go_enter Try.func3, Try.ntmps3
      go_wp2_with fail
      refine (HF.out _).mono ?_
      rintro e w1 ⟨rfl, hb1⟩
      dsimp only
      have hP1 := Lib.hid (h.out.next hb1)
      go_wp2_with (first
        | (at_builtin; refine wpList_append_own _ rfl _ _ 22 rfl w1.heap.size 32 i0 (.agg #[.int .i64 0, .int .i64 0]) 2 16 Try.underlying22 G0.out G1.out G2.out G3.out rfl (by decide) _ _ _ rfl (World.ownsRow_made w1 #[] 0 (Nat.le_refl _) (by decide) rfl) ad n c (cellsOf p n) rfl (cellsOf_length p _) (fun j u hj => cellB (b1 _ _) (pts_news hP1.out j u hj)) (cells_one p n) (by unfold maxLen; omega) (by omega) (by simp) ?_; intro v' w2 hown hgrow _; rw [Nat.zero_add, List.nil_append] at hown; obtain ⟨a', c', rfl, hP2⟩ := owns_any hown; have hb2 : Below w1.heap.size w1 w2 := ((Below.refl _ _).alloc (Nat.le_refl _) _).grown hgrow (by simp) (fun _ h => by cases h; exact Nat.le_refl _); obtain ⟨q1, q2, q3, A, E, B, q4, q5, q6, q7⟩ := sameAns n p w2 (some ad) a' c c' hn (hP1.out.next hb2) hP2; have hb3 : Below w2.heap.size w2 w2 := Below.refl _ _; have Q1 := Lib.hid q1; have Q2 := Lib.hid q2; have Q3 := Lib.hid q3; have Q4 := Lib.hid q4; have Q5 := Lib.hid q5; have Q6 := Lib.hid q6; have Q7 := Lib.hid q7; clear q1 q2 q3 q4 q5 q6 q7; clear hP1 hP2 hown hgrow)
        | (go_at_call 14; refine (Q1.out _ hb3).mono ?_; rintro e w4 ⟨rfl, hb4⟩; replace hb3 := nextB hb3 hb4; clear hb4)
        | (go_at_call 15; refine (Q2.out _ hb3).mono ?_; rintro e w4 ⟨rfl, hb4⟩; replace hb3 := nextB hb3 hb4; clear hb4)
        | (go_at_call 20; refine (Q3.out _ hb3).mono ?_; rintro e w4 ⟨rfl, hb4⟩; replace hb3 := nextB hb3 hb4; clear hb4)
        | (go_at_call 16; refine (Q4.out _ hb3).mono ?_; rintro e w4 ⟨rfl, hb4⟩; replace hb3 := nextB hb3 hb4; clear hb4)
        | (go_at_call 17; refine (Q5.out _ hb3).mono ?_; rintro e w4 ⟨rfl, hb4⟩; replace hb3 := nextB hb3 hb4; clear hb4)
        | (go_at_call 18; refine (Q6.out _ hb3).mono ?_; rintro e w4 ⟨rfl, hb4⟩; replace hb3 := nextB hb3 hb4; clear hb4)
        | (go_at_call 19; refine (Q7.out _ hb3).mono ?_; rintro e w4 ⟨rfl, hb4⟩; replace hb3 := nextB hb3 hb4; clear hb4)
        | (go_at_call 13; refine (alive_any _).mono ?_; rintro e w4 ⟨rfl, hb4⟩; replace hb3 := nextB hb3 hb4; clear hb4)
        | fail)
      go_ret
      exact Ret.mk rfl (nextB hb1 (nextB hb2 hb3))
  · simp only [decide_eq_false hn] at HF
    replace HF := Lib.hid HF
    clear h hcap
    go_enter Try.func3, Try.ntmps3
    go_wp2_with (first
      | (go_at_call 12; refine (HF.out _).mono ?_; rintro e w1 ⟨rfl, hb1⟩)
      | (go_at_call 13; refine (alive_any _).mono ?_; rintro e w2 ⟨rfl, hb2⟩; replace hb1 := nextB hb1 hb2; clear hb2))
    go_ret
    exact Ret.mk rfl hb1
end Go.Proofs.Ytnjegnlfdbbleaa
