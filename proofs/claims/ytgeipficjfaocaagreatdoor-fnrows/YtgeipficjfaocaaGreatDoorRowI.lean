/-
  The contract of the program's text of a row.
-/
import Derived.Test.YtgeipficjfaocaaGreatDoorKeyI
import Derived.Test.YtgeipficjfaocaaGreatDoorRowS
namespace Go.Proofs.YtgeipficjfaocaaGreatDoor
open Go.ChangeShapes Go.WideShapes Go.ChangeAt Go.RowKit
attribute [local go_sem ↓] Go.wp_at_zero Go.wp_at_succ

theorem rowT_no {l : List CT} {k : Nat} (h : k < l.length) (ho : okC l[k] = false) : rowT l = ⟨#[]⟩ := by
  unfold rowT
  rw [if_neg]
  intro e
  rw [List.all_eq_true.1 e _ (List.getElem_mem h)] at ho
  cases ho

set_option maxRecDepth 100000 in
set_option maxHeartbeats 2000000 in
theorem rowtext_impl (a : Option Addr) (cap : Nat) (l : List CT) (w : World) (hrow : RowAt w a l) (hfit : Fit l) (hm : l.length ≤ 1048576) (hp : PowAt w) (y : ByteArray) (hy : rowT l = y) :
    Calls Tryz.prog 6 #[.slice a l.length cap] w fun e w' => e = .returned (.string y) ∧ Below w.heap.size w w' := by
  obtain ⟨i0, hti, hz0, hz1, hz2⟩ := info_parts infoStr
  have HR : Hid (RowAt w a l) := hrow
  have HF : Hid (Fit l) := hfit
  have HY : Hid (rowT l = y) := hy
  have HP : Hid (PowAt w) := hp
  clear hrow hfit hy hp
  go_enter Tryz.func6, Tryz.ntmps6
  go_wp2_with (at_make; refine wpList_make_own _ rfl _ _ 44 rfl w.heap.size 9 i0 (.string ⟨#[]⟩) 1 Tryz.underlying44 hti hz0 hz1 .i64 .i64 _ l.length rfl rfl rfl (by rw [hz2]; omega) (by unfold maxLen; omega) (Nat.le_refl _) ?_)
  intro w0 hown0 hgrow0
  have hb0 : Below w.heap.size w w0 := (Below.refl _ _).grown hgrow0 (Nat.le_refl _) (by intro k h; cases h)
  have own0 : Hid (w0.ownsRow w.heap.size 9 1 (.slice (some ⟨w.heap.size, 0, none⟩) 0 l.length) (textsC (l.take 0)).length ((textsC (l.take 0)).map Value.string)) := hown0
  clear hown0 hgrow0
  go_wp2
  go_loopw [3, 11] (fun v kk wr => ∃ k : Nat, k ≤ l.length ∧ kk = .int .i64 k ∧ Hid ((l.take k).all okC = true) ∧ Hid (wr.ownsRow w.heap.size 9 1 v (textsC (l.take k)).length ((textsC (l.take k)).map Value.string)) ∧ Below w.heap.size w wr ∧ v ≠ .slice none 0 0) (fun _ kk _ => l.length - (intOf kk).toNat)
  case atStart => exact ⟨0, Nat.zero_le _, rfl, rfl, own0, hb0, by simp⟩
  case round =>
    obtain ⟨k, hk, rfl, hall, hO, hb, hvn⟩ := hrel
    by_cases hlt : k < l.length
    · obtain ⟨g, o, rfl, hgw, c0, c1, c2⟩ := HR.out.below hb k hlt
      have hi0 : (0 : Int) ≤ (k : Int) := by omega
      have hi1 : (k : Int) < (l.length : Int) := by omega
      have hft := HF.out k hlt
      have hsa := all_snoc l k hlt
      rw [hall.out, Bool.true_and] at hsa
      have HS0 : Hid ((l.take (k + 1)).all okC = okC l[k]) := hsa
      obtain ⟨r, hr⟩ : ∃ r, okB l[k].1 l[k].2.1 l[k].2.2 = r := ⟨_, rfl⟩
      have HRR : Hid (okC l[k] = r) := hr
      have hno : Hid (okC l[k] = false → y = ⟨#[]⟩) := by
        have : okC l[k] = false → y = ⟨#[]⟩ := fun e => by rw [← HY.out]; exact rowT_no hlt e
        exact this
      have hsn := textsC_snoc l k hlt
      have hlen : (textsC (l.take k)).length = k := by rw [textsC_length, List.length_take]; omega
      obtain ⟨z, hz⟩ : ∃ z : ByteArray, cellT l[k].1 l[k].2.1 l[k].2.2 = z := ⟨_, rfl⟩
      have hsn2 : r = true → textsC (l.take (k + 1)) = textsC (l.take k) ++ [z] := by
        intro e
        subst e
        rw [hsn, ← hz]
        congr 2
        exact bytes_ext (by rw [cellT_ok hr]; rfl)
      have HS : Hid (r = true → textsC (l.take (k + 1)) = textsC (l.take k) ++ [z]) := hsn2
      clear hsn hsn2 hsa
      have hOO := hO.out
      rw [hlen] at hOO
      generalize textsC (l.take k) = xs at HS hOO hlen
      generalize l[k] = x at c0 c1 c2 hr hz hft HS0 HRR hno
      go_wp2_with fail
      refine (ok_implb _ _ _ _ hr _ hft).mono ?_
      rintro e w1 ⟨rfl, hb1⟩
      obtain ⟨a1, b1, d1, e1⟩ := box3 hb1
      clear c0 c1 c2
      cases r
      · have e := hno.out HRR.out
        subst e
        go_wp2
        go_ret
        exact ⟨rfl, chain hb (chainA hb1)⟩
      · have hbx := chain hb (chainA hb1)
        go_wp2_with fail
        refine (ctext_implb _ _ _ z hz _ hft (HP.out.below hbx)).mono ?_
        rintro e w2 ⟨rfl, hb2⟩
        clear hz hr
        have O1 := own_below hOO (chain (chainA hb1) hb2)
        have hx := chain hbx hb2
        clear a1 b1 d1
        go_wp2_with (at_builtin; refine wpList_append_own _ rfl _ _ 44 rfl w.heap.size 9 i0 (.string ⟨#[]⟩) 1 16 Tryz.underlying44 hti hz0 hz1 hz2 rfl (by decide) _ _ _ rfl (O1.alloc _) ⟨w2.heap.size, 0, none⟩ 1 1 [.string z] rfl rfl ?c1 ?c2 ?c3 ?c4 ?c5 ?_)
        case c1 =>
          intro j u hj
          match j, hj with
          | 0, hj => simp at hj; subst hj; simp [Addr.add]
        case c2 => intro u hu; simp at hu; subst hu; rfl
        case c3 => unfold maxLen; omega
        case c4 => omega
        case c5 => have := hx.size; simp; omega
        intro v' w3 own2 hgrow hnn
        have hx2 : Below w.heap.size w w3 := by
          refine (hx.alloc hx.size _).grown hgrow (by have := hx.size; simp; omega) ?_
          intro kk hkk
          exact (O1.lt kk hkk).1
        have hvn2 : v' ≠ .slice none 0 0 := by first | exact hnn | exact fun e => hvn (hnn.1 e).1
        have SS : Hid (w3.ownsRow w.heap.size 9 1 v' (textsC (l.take (k + 1))).length ((textsC (l.take (k + 1))).map Value.string)) := by
          have : w3.ownsRow w.heap.size 9 1 v' (textsC (l.take (k + 1))).length ((textsC (l.take (k + 1))).map Value.string) := by
            rw [HS.out (by trivial), List.length_append, hlen, List.map_append]; exact own2
          exact this
        clear own2 hgrow hnn O1 hOO hO
        go_wp2
        go_roundw
        case rel => exact ⟨k + 1, by omega, by go_num, HS0.out.trans HRR.out, SS, hx2, hvn2⟩
        case measure => simp [intOf]; omega
    · have hkl : k = l.length := by omega
      subst hkl
      have hi1 : ¬ (l.length : Int) < (l.length : Int) := by omega
      have hAll : l.all okC = true := by have := hall.out; rwa [List.take_length] at this
      have hOO := hO.out
      rw [List.take_length] at hOO
      rcases hOO.2 with ⟨h', _⟩ | ⟨g, c, cur, h', hbg, _, hcap, _⟩
      · exact absurd h' hvn
      subst h'
      have hT := texts_own hOO
      have h14 := texts_14 hAll
      have hl2 := textsC_length l
      have hjl := join_len (rawT (textsC l)) (by
        intro z hz
        unfold rawT at hz
        obtain ⟨u, hu, rfl⟩ := List.mem_map.1 hz
        have := h14 u hu
        rw [Lib.size_eq] at this
        exact this)
      have hrl : (rawT (textsC l)).length = l.length := by unfold rawT; rw [List.length_map, hl2]
      have HY2 : Hid ((⟨(Lib.join (rawT (textsC l)) [32]).toArray⟩ : ByteArray) = y) := by
        have : (⟨(Lib.join (rawT (textsC l)) [32]).toArray⟩ : ByteArray) = y := by rw [← HY.out, rowT_texts hAll]
        exact this
      have HT : Hid (TextsAt wr g (textsC l)) := hT
      by_cases hn0 : (textsC l).length = 0
      · have hl0 : l = [] := List.length_eq_zero_iff.1 (by omega)
        subst hl0
        have e : y = ⟨#[]⟩ := by rw [← HY.out]; rfl
        subst e
        clear hT h14 hl2 hjl hrl hOO hO hn0 hcap HT HY2 hAll
        go_wp2_with fail
        refine (joined_none _ _ _ _).mono ?_
        rintro e w2 ⟨rfl, rfl⟩
        go_wp2
        go_ret
        exact ⟨rfl, hb⟩
      · have hg : g < wr.heap.size := (hT 0 (by omega)).2
        have HJ : Hid ((Lib.join (rawT (textsC l)) [32]).length ≤ 140737488355328) := by
          have : (Lib.join (rawT (textsC l)) [32]).length ≤ 140737488355328 := by omega
          exact this
        have HL : Hid ((textsC l).length ≤ 140737488355328) := by
          have : (textsC l).length ≤ 140737488355328 := by omega
          exact this
        have HC : Hid ((textsC l).length ≤ c) := hcap
        clear hT h14 hl2 hjl hrl hOO hO hn0 hcap
        go_wp2_with fail
        refine (joined_impl g c (textsC l) ⟨#[32]⟩ _ (fun j x hj => ?_) hg HL.out HC.out HJ.out y HY2.out).mono ?_
        · obtain ⟨hlt, rfl⟩ := List.getElem?_eq_some_iff.1 hj
          rw [Nat.zero_add]
          exact (HT.out j hlt).1
        rintro e w2 ⟨rfl, hb2⟩
        go_wp2
        go_ret
        exact ⟨rfl, chain hb hb2⟩

end Go.Proofs.YtgeipficjfaocaaGreatDoor
