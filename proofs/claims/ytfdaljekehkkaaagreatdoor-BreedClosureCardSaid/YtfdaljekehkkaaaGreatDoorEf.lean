/- Layer 5, by the program: the tree as a string. -/
import Derived.Test.YtfdaljekehkkaaaGreatDoorEd
import Derived.Test.YtfdaljekehkkaaaGreatDoorJo
namespace Go.Proofs.YtfdaljekehkkaaaGreatDoor
open Go Go.RowKit

/-- A string of these bytes. -/
def strV (l : List UInt8) : Value := .string ⟨l.toArray⟩
theorem small_any (b : Nat) (hb : b < 9) (w : World) : Calls Tryz.prog 117 #[.int .i64 (b : Nat)] w (Only (strV [UInt8.ofNat (48 + b)]) w) := by
  have hn : b = 0 ∨ b = 1 ∨ b = 2 ∨ b = 3 ∨ b = 4 ∨ b = 5 ∨ b = 6 ∨ b = 7 ∨ b = 8 := by omega
  rcases hn with rfl | rfl | rfl | rfl | rfl | rfl | rfl | rfl | rfl
  all_goals
    go_enter Tryz.func117, Tryz.ntmps117
    go_wp2
    go_ret
    exact Only.mk (by first | rfl | decide)
theorem format_any (b : Nat) (hb : b < 9) (w : World) : Calls Tryz.prog 116 #[.int .i64 (b : Nat), .int .i64 10] w (Only (strV [UInt8.ofNat (48 + b)]) w) := by
  have K := Lib.hid (small_any b hb w)
  generalize strV [UInt8.ofNat (48 + b)] = r at *
  go_enter Tryz.func116, Tryz.ntmps116
  go_wp2_with (go_at_call 117; refine K.out.mono ?_; rintro e w1 ⟨rfl, rfl⟩)
  go_ret
  exact Only.mk rfl
theorem itoa_any (b : Nat) (hb : b < 9) (w : World) : Calls Tryz.prog 114 #[.int .i64 (b : Nat)] w (Only (strV [UInt8.ofNat (48 + b)]) w) := by
  have K := Lib.hid (format_any b hb w)
  have K2 : Hid (Calls Tryz.prog 115 #[.int .i64 (b : Nat)] w (Only (strV [UInt8.ofNat (48 + b)]) w)) := by
    refine Lib.hid ?_
    generalize strV [UInt8.ofNat (48 + b)] = r at *
    go_enter Tryz.func115, Tryz.ntmps115
    go_wp2_with (go_at_call 116; refine K.out.mono ?_; rintro e w1 ⟨rfl, rfl⟩)
    go_ret
    exact Only.mk rfl
  clear K
  generalize strV [UInt8.ofNat (48 + b)] = r at *
  go_enter Tryz.func114, Tryz.ntmps114
  go_wp2_with (go_at_call 115; refine K2.out.mono ?_; rintro e w1 ⟨rfl, rfl⟩)
  go_ret
  exact Only.mk rfl
theorem beastText_any (b : Nat) (hb : b < 9) (w : World) : Calls Tryz.prog 113 #[.int .i64 (b : Nat)] w (Only (strV [UInt8.ofNat (48 + b)]) w) := by
  have K := Lib.hid (itoa_any b hb w)
  generalize strV [UInt8.ofNat (48 + b)] = r at *
  go_enter Tryz.func113, Tryz.ntmps113
  go_wp2_with (go_at_call 114; refine K.out.mono ?_; rintro e w1 ⟨rfl, rfl⟩)
  go_ret
  exact Only.mk rfl
theorem joinTail_con (ks : List Tr) : Lib.joinTail [44] (ks.map Tr.txt) = conL ks := by
  induction ks with
  | nil => rfl
  | cons k ks ih =>
    have e : Lib.joinTail [44] ((k :: ks).map Tr.txt) = ([44] ++ k.txt) ++ Lib.joinTail [44] (ks.map Tr.txt) := rfl
    rw [e, ih]
    simp [conL]
theorem join_txt (ks : List Tr) : Lib.join (ks.map Tr.txt) [44] = txtL ks := by
  cases ks with
  | nil => rfl
  | cons k ks =>
    rw [List.map_cons, Lib.join_cons, joinTail_con]
    rfl
theorem txt_len_mem {ks : List Tr} {t : Tr} (h : t ∈ ks) : t.txt.length ≤ (txtL ks).length := by
  have hc : ∀ ks : List Tr, t ∈ ks → t.txt.length ≤ (conL ks).length := by
    intro ks
    induction ks with
    | nil => intro h; cases h
    | cons k ks ih =>
      intro h
      simp only [conL, List.length_cons, List.length_append]
      rcases List.mem_cons.1 h with e | e
      · rw [e]; omega
      · have := ih e; omega
  cases ks with
  | nil => cases h
  | cons k ks =>
    simp only [txtL, List.length_append]
    rcases List.mem_cons.1 h with e | e
    · rw [e]; omega
    · have := hc ks e; omega
theorem conL_len_le (ks : List Tr) : ks.length ≤ (conL ks).length := by
  induction ks with
  | nil => simp
  | cons k ks ih => simp only [conL, List.length_cons, List.length_append]; omega
theorem txtL_len_le (ks : List Tr) : ks.length ≤ (txtL ks).length + 1 := by
  cases ks with
  | nil => simp
  | cons k ks =>
    have := conL_len_le ks
    simp only [txtL, List.length_cons, List.length_append]; omega
/-- The strings of trees, as cells. -/
def txC (ks : List Tr) : List Value := ks.map fun t => strV t.txt
theorem txC_snoc (ks : List Tr) (t : Tr) : txC (ks ++ [t]) = txC ks ++ [strV t.txt] := by simp [txC]
theorem infoStr : (Tryz.prog.info? 9).map (fun i => (i.zero, i.size, i.bytes)) = some (some (.string ⟨#[]⟩), 1, 16) := by kernel_rfl
/-- The method text of a tree. -/
def TextM (t : Tr) (v : Value) (w : World) : Prop := ∃ ty pay f arg, v = .iface ty pay ∧ (∀ W, (method 268 ty pay "droveway/breed.text").run Tryz.prog W = .ok (f, arg) W) ∧
    (∀ args W, (callFunc f args).run Tryz.prog W = .ok (.enter f args) W) ∧ Calls Tryz.prog f #[arg] w (Ret (strV t.txt) w)
set_option maxRecDepth 100000 in
set_option maxHeartbeats 4000000 in
theorem text_any : ∀ (t : Tr) (A : Nat → Prop) (v : Value) (w : World), TreeV A w t v → t.txt.length ≤ 1000 → TextM t v w := by
  intro t
  induction t using Tr.ind with
  | h1 b =>
    intro A v w h _
    simp only [TreeV] at h
    obtain ⟨rfl, hb⟩ := h
    exact ⟨_, _, _, _, rfl, meth_leafT b, fun args W => by go_simp, (beastText_any b hb w).mono fun _ _ k => k.ret⟩
  | h2 ks ih =>
    intro A v w h hlen
    simp only [TreeV] at h
    obtain ⟨blk, off, c, rfl, hs, ha, h0, hk⟩ := h
    refine ⟨_, _, _, _, rfl, meth_famT _ _, fun args W => by go_simp, ?_⟩
    rw [treesV_iff] at hk
    have hl2 : (txtL ks).length ≤ 998 := by simp only [Tr.txt, List.length_cons, List.length_append, List.length_nil] at hlen; omega
    have hl3 := txtL_len_le ks
    obtain ⟨n, hn⟩ : ∃ n, Hid (ks.length = n) := ⟨_, Lib.hid rfl⟩
    rw [hn.out] at hl3 h0
    rw [hn.out]
    replace hk := Lib.hid hk
    replace ih := Lib.hid ih
    replace hlen := Lib.hid hlen
    obtain ⟨i0, hi, hz0, hz1, hz2⟩ := info_parts infoStr
    have G0 := Lib.hid hi
    have G1 := Lib.hid hz0
    have G2 := Lib.hid hz1
    have G3 := Lib.hid hz2
    clear hi hz0 hz1 hz2
    obtain ⟨res, hres⟩ : ∃ r, Hid (strV (Tr.fam ks).txt = r) := ⟨_, Lib.hid rfl⟩
    rw [hres.out]
    generalize setL ks = s at *
    have hB := Blk.new w 92 #[.int .i64 (s : Int), .slice (some ⟨blk, off, none⟩) n c]
    have x0 := hB.c 1 rfl
    have bA := b1 w (.cells #[.int .i64 (s : Int), .slice (some ⟨blk, off, none⟩) n c] 92)
    replace hB := Lib.hid hB
    replace bA := Lib.hid bA
    go_enter Tryz.func124, Tryz.ntmps124
    go_wp2
    go_loopw [3, 9] (fun v i wr => ∃ k : Nat, k ≤ n ∧ i = .int .i64 k ∧ wr.ownsRow w.heap.size 9 1 v k (txC (ks.take k)) ∧ Below w.heap.size w wr) (fun _ i _ => n - (intOf i).toNat)
    case atStart => exact ⟨0, Nat.zero_le _, rfl, World.ownsRow_nil _ _ _ _, bA.out⟩
    case round =>
      clear x0
      obtain ⟨k, hk', rfl, hown, B0⟩ := hrel
      by_cases hlt : k < n
      · have hkl : k < ks.length := by rw [hn.out]; exact hlt
        obtain ⟨v0, hc, hv⟩ := hk.out k hkl
        have x0 := cellB B0 hc
        obtain ⟨ty, pay, f, arg, rfl, hm, he, hC⟩ := ih.out ks[k] (List.getElem_mem hkl) A v0 wr (hv.next B0) (Nat.le_trans (txt_len_mem (List.getElem_mem hkl)) (by omega))
        have hki : (k : Int) < (n : Int) := by omega
        have E := Lib.hid (show txC (ks.take (k + 1)) = txC (ks.take k) ++ [strV ks[k].txt] by rw [List.take_succ_eq_append_getElem hkl, txC_snoc])
        have hlt2 := Lib.hid hown.lt
        replace hC := Lib.hid hC
        clear hc
        obtain ⟨str, hstr⟩ : ∃ s, Hid (ks[k].txt = s) := ⟨_, Lib.hid rfl⟩
        rw [hstr.out] at hC E
        clear hv
        generalize txC (ks.take k) = xs at *
        unfold strV at hC E
        go_wp2_with (first
          | ((with_reducible refine hC.out.mono ?_); rintro e w2 ⟨rfl, hb2⟩; have hown2 := owns_next hown hb2)
          | (at_builtin; refine wpList_append_own _ rfl _ _ 155 rfl w.heap.size 9 i0 (.string ⟨#[]⟩) 1 16 Tryz.underlying155 G0.out G1.out G2.out G3.out rfl (by decide) _ _ _ rfl (hown2.alloc _) ⟨_, 0, none⟩ 1 1 [.string ⟨str.toArray⟩] rfl rfl (cell_new _ _ _) (by simp [Value.oneCell']) (by unfold maxLen; omega) (by omega) (by have := B0.size; have := hb2.size; simp; omega) ?_; intro v' w3 hown3 hgrow _))
        have hs1 := B0.size
        have hs2 := hb2.size
        have B2 := ((nextB B0 hb2).alloc (by omega) (.cells #[.string ⟨str.toArray⟩] 9)).grown hgrow (by simp; omega) (fun q hq => by have := (hlt2.out q hq).1; omega)
        go_roundw
        case rel => exact ⟨k + 1, by omega, by go_num, by rw [E.out]; exact hown3, B2⟩
        case measure => simp [intOf]; omega
      · obtain rfl : k = n := by omega
        rw [show ks.take k = ks by rw [← hn.out, List.take_length]] at hown
        obtain ⟨g, cap, rfl⟩ := own_pos hown h0.1
        have hgl := (hown.lt g rfl).2
        have hcap : k ≤ cap := by
          rcases hown.2 with ⟨h, _⟩ | ⟨g', cap', cur, h, _, _, h2, _⟩
          · simp at h
          · simp only [Value.slice.injEq] at h; omega
        have hnn := hn.out
        have J := joinS_any g 0 cap (ks.map fun t => ⟨t.txt.toArray⟩) ⟨#[44]⟩ wr (fun j x hj => by
          rw [Nat.zero_add]
          have hjl : j < ks.length := by have := (List.getElem?_eq_some_iff.1 hj).1; simpa using this
          rw [hown.cellAt j (by omega)]
          simp only [txC, List.getElem?_map, List.getElem?_eq_getElem hjl, Option.map_some, Option.some.injEq] at hj ⊢
          rw [← hj]; rfl) hgl (by simp; omega) (by simp; omega) (by
            have : ((ks.map fun t => (⟨t.txt.toArray⟩ : ByteArray)).map (·.data.toList)) = ks.map Tr.txt := by simp
            rw [this]
            show (Lib.join (ks.map Tr.txt) [44]).length ≤ _
            rw [join_txt]; omega)
        have ej : ((ks.map fun t => (⟨t.txt.toArray⟩ : ByteArray)).map (·.data.toList)) = ks.map Tr.txt := by simp
        rw [ej, List.length_map, hn.out] at J
        change Calls Tryz.prog 125 #[.slice (some ⟨g, 0, none⟩) k cap, .string ⟨#[44]⟩] wr (Ret (.string ⟨(Lib.join (ks.map Tr.txt) [44]).toArray⟩) wr) at J
        rw [join_txt] at J
        replace J := Lib.hid J
        have hr2 := Lib.hid (show Value.string (⟨#[40]⟩ ++ ⟨(txtL ks).toArray⟩ ++ ⟨#[41]⟩ : ByteArray) = res by
          rw [← hres.out]
          show Value.string _ = Value.string ⟨(40 :: (txtL ks ++ [41])).toArray⟩
          refine congrArg Value.string (ByteArray.ext ?_)
          simp [ByteArray.data_append])
        clear hown ej hnn
        generalize txtL ks = tx at *
        go_wp2_with (go_at_call 125; (with_reducible refine J.out.mono ?_); rintro e w2 ⟨rfl, hb2⟩)
        go_ret
        exact Ret.mk hr2.out (nextB B0 hb2)
end Go.Proofs.YtfdaljekehkkaaaGreatDoor
