/- Rows that begin inside a made block (list[1:]): what a call owns of them, markTermS and markClause on them. What RenumberClause answers, plain; spec.l4Renumber, spec.RenumberClause. Condition: the call owns the clause. -/
import Derived.Test.YtojilompidmfiaaDoorProg
import Derived.Test.YtojilompidmfiaaDoorClE
import Derived.Test.YtojilompidmfiaaDoorHab
import Derived.Test.YtojilompidmfiaaDoorSpecR
import Derived.Test.YtojilompidmfiaaDoorAll
import Derived.Test.YtojilompidmfiaaDoorCvS
namespace Go.Proofs.YtojilompidmfiaaDoor
open Go.RowKit

/-- The slice value from cell o0 of its block on owns the row f, in the blocks L. -/
def OwnSo (w : World) (f : Fr) (A : Option Addr) (cap : Nat) (L : List Nat) : Prop :=
  f.len ≤ cap ∧ cap ≤ maxLen ∧ ((f.len = 0 ∧ L = []) ∨ ∃ b o0 L' cs, A = some ⟨b, o0, none⟩ ∧ L = b :: L' ∧ Blk w b 29 cs ∧ cs.size = o0 + cap * 4 ∧ OwnAt w f b o0 L')
theorem OwnSo.keep {w w' : World} {f : Fr} {A : Option Addr} {cap : Nat} {L : List Nat} (h : OwnSo w f A cap L) (hL : ∀ x ∈ L, w'.heap[x]? = w.heap[x]?) : OwnSo w' f A cap L := by
  obtain ⟨h1, h2, ⟨h3, rfl⟩ | ⟨b, o0, L', cs, rfl, rfl, hb, hs, ho⟩⟩ := h
  · exact ⟨h1, h2, .inl ⟨h3, rfl⟩⟩
  · have hblk := hL b (by simp)
    exact ⟨h1, h2, .inr ⟨b, o0, L', cs, rfl, rfl, hb.keep hblk, hs, OwnAt.keep f b o0 L' ho (fun j _ => World.cell?_of_block (a := ⟨b, o0 + j, none⟩) hblk) fun x hx => hL x (by simp [hx])⟩⟩
theorem OwnSo.lt {w : World} {f : Fr} {A : Option Addr} {cap : Nat} {L : List Nat} (h : OwnSo w f A cap L) : ∀ x ∈ L, x < w.heap.size := by
  intro x hx
  rcases h.2.2 with ⟨_, rfl⟩ | ⟨b, o0, L', cs, rfl, rfl, hblk, _, ho⟩
  · simp at hx
  · rcases List.mem_cons.1 hx with rfl | hx
    · exact hblk.lt
    · exact OwnAt.lt f b o0 L' ho x hx
theorem OwnSo.below {w w' : World} {f : Fr} {A : Option Addr} {cap B : Nat} {L : List Nat} (h : OwnSo w f A cap L) (hb : Below B w w') (hL : ∀ x ∈ L, x < B) : OwnSo w' f A cap L := h.keep fun x hx => hb.block x (hL x hx)
theorem OwnSo.wrote {w w' : World} {f : Fr} {A : Option Addr} {cap : Nat} {K L : List Nat} (h : OwnSo w f A cap K) (hw : Wrote L w w') (hn : ∀ x ∈ K, x ∉ L) : OwnSo w' f A cap K :=
  h.keep fun x hx => hw.block x (h.lt x hx) (hn x hx)
theorem OwnSo.kids {w : World} {f : Fr} {A : Option Addr} {cap lo hi : Nat} {L : List Nat} (h : OwnSo w f A cap L) (hL : ∀ x ∈ L, lo ≤ x ∧ x < hi) : KidsAt w lo hi f A cap :=
  ⟨h.1, h.2.1, fun hp => by
    rcases h.2.2 with ⟨hz, _⟩ | ⟨b, o0, L', cs, rfl, rfl, hblk, _, ho⟩
    · omega
    · exact ⟨b, o0, rfl, (hL b (by simp)).1, (hL b (by simp)).2, OwnAt.row f b o0 L' ho fun x hx => hL x (by simp [hx])⟩⟩
theorem OwnS.so {w : World} {f : Fr} {A : Option Addr} {cap : Nat} {L : List Nat} (h : OwnS w f A cap L) : OwnSo w f A cap L := by
  obtain ⟨h1, h2, h3 | ⟨b, L', cs, rfl, rfl, hb, hs, ho⟩⟩ := h
  · exact ⟨h1, h2, .inl h3⟩
  · exact ⟨h1, h2, .inr ⟨b, 0, L', cs, rfl, rfl, hb, by omega, ho⟩⟩
/-- Behind the row's first term. -/
theorem OwnS.tail {w : World} {k n : Int} {s : ByteArray} {f g : Fr} {A : Option Addr} {cap : Nat} {L : List Nat} (h : OwnS w (.cons k n s f g) A cap L) (hn : L.Nodup) :
    ∃ b Af capf L1 L2, A = some ⟨b, 0, none⟩ ∧ g.len + 1 ≤ cap ∧ cap ≤ maxLen ∧ Fits k n s ∧ (w.cell? ⟨b, 0, none⟩ = some (.int .i64 k) ∧ w.cell? ⟨b, 1, none⟩ = some (.int .i64 n) ∧ w.cell? ⟨b, 2, none⟩ = some (.string s) ∧ w.cell? ⟨b, 3, none⟩ = some (.slice Af f.len capf)) ∧ b < w.heap.size ∧
      OwnS w f Af capf L1 ∧ OwnSo w g (some ⟨b, 4, none⟩) (cap - 1) L2 ∧ (L1 ++ L2).Nodup ∧ ∀ x ∈ L1 ++ L2, x ∈ L := by
  obtain ⟨h1, h2, ⟨h3, _⟩ | ⟨b, L', cs, rfl, rfl, hb, hs, ho⟩⟩ := h
  · simp [Fr.len] at h3
  · obtain ⟨Af, capf, L1, L2, rfl, hfit, hc, a1, a2, a3, hr⟩ := ho
    have hl : g.len + 1 ≤ cap := h1
    obtain ⟨hb0, hn'⟩ := List.nodup_cons.1 hn
    obtain ⟨n1, n2, n12⟩ := List.nodup_append.1 hn'
    refine ⟨b, Af, capf, L1, b :: L2, rfl, hl, h2, hfit, by simpa using hc, hb.lt, ⟨a1, a2, a3⟩, ⟨by omega, by omega, .inr ⟨b, 4, L2, cs, rfl, rfl, hb, by omega, by simpa using hr⟩⟩, ?_, ?_⟩
    · refine List.nodup_append.2 ⟨n1, List.nodup_cons.2 ⟨fun h => hb0 (by simp [h]), n2⟩, fun a ha b' hb' e => ?_⟩
      subst e
      rcases List.mem_cons.1 hb' with rfl | hb'
      · exact hb0 (by simp [ha])
      · exact n12 a ha a hb' rfl
    · intro x hx
      simp at hx ⊢
      rcases hx with h | h | h <;> simp [h]

/-- The loop's relation: i terms are marked, the others are as they were. -/
def MkQ (w : World) (f : Fr) (b o0 cap : Nat) (L' : List Nat) (k0 i : Nat) (wr : World) : Prop :=
  ∃ La Lb cs, L' = La ++ Lb ∧ OwnAt wr (markF (f.take i) k0) b o0 La ∧ OwnAt wr (f.drop i) b (o0 + i * 4) Lb ∧ Blk wr b 29 cs ∧ cs.size = o0 + cap * 4 ∧ Wrote (b :: L') w wr
/-- What a round meets: the kids of term i, in the blocks K; the cells of term i can be written. -/
def MkQOpen (w : World) (f : Fr) (b o0 cap : Nat) (L' : List Nat) (k0 i kk : Nat) (kids : Fr) (A' : Option Addr) (cap' : Nat) (wr : World) : Prop :=
  (∃ v0 v1 v2, wr.cell? ⟨b, o0 + i * 4, none⟩ = some v0 ∧ wr.cell? ⟨b, o0 + i * 4 + 1, none⟩ = some v1 ∧ wr.cell? ⟨b, o0 + i * 4 + 2, none⟩ = some v2 ∧ wr.cell? ⟨b, o0 + i * 4 + 3, none⟩ = some (.slice A' kids.len cap')) ∧
  b < wr.heap.size ∧ (∀ j, wr.frozen? ⟨b, j, none⟩ = false) ∧
  ∃ K : List Nat, K.Nodup ∧ ∀ w1 : World, Below wr.heap.size ((wr.setCell ⟨b, o0 + i * 4, none⟩ (.int .i64 (kk : Int))).setCell ⟨b, o0 + i * 4 + 1, none⟩ (.int .i64 ((kk : Int) + 1))) w1 →
    ((∃ v, w1.cell? ⟨b, o0 + i * 4 + 2, none⟩ = some v) ∧ w1.frozen? ⟨b, o0 + i * 4 + 2, none⟩ = false ∧ w1.cell? ⟨b, o0 + i * 4 + 3, none⟩ = some (.slice A' kids.len cap')) ∧
    OwnS (w1.setCell ⟨b, o0 + i * 4 + 2, none⟩ (.string (mtext (kk + 2)))) kids A' cap' K ∧
    ∀ w4, OwnS w4 (markF kids (kk + 3)) A' cap' K → Wrote K (w1.setCell ⟨b, o0 + i * 4 + 2, none⟩ (.string (mtext (kk + 2)))) w4 → MkQ w f b o0 cap L' k0 (i + 1) w4
theorem MkQ.open_ {w wr : World} {f : Fr} {b o0 cap k0 i : Nat} {L' : List Nat} {k n : Int} {s : ByteArray} {kids rest : Fr} (h : MkQ w f b o0 cap L' k0 i wr) (hd : f.drop i = .cons k n s kids rest) (hi : i < f.len) (hcap : f.len ≤ cap) (hnd : (b :: L').Nodup)
    (hk : k0 + 3 * nodes f ≤ 1099511627776) : ∃ A' cap', MkQOpen w f b o0 cap L' k0 i (k0 + 3 * nodes (f.take i)) kids A' cap' wr := by
  obtain ⟨La, Lb, cs, rfl, hfront, hback, hblk, hsz, hwr⟩ := h
  rw [hd] at hback
  obtain ⟨A', cap', L1, L2, rfl, hfit, ⟨c0, c1, c2, c3⟩, h1, h2, h3, hr⟩ := hback
  have hlen : (f.take i).len = i := Fr.len_take i f (by omega)
  have hsp := nodes_split i f
  have hn1 : nodes (f.drop i) = 1 + nodes kids + nodes rest := by rw [hd]; rfl
  have hlt := hblk.lt
  obtain ⟨hb0, hnd'⟩ := List.nodup_cons.1 hnd
  obtain ⟨hna, hnb, hab⟩ := List.nodup_append.1 hnd'
  obtain ⟨hn1', hn2', h12⟩ := List.nodup_append.1 hnb
  have hb1 : b ∉ La := fun h => hb0 (by simp [h])
  have hb2 : b ∉ L1 := fun h => hb0 (by simp [h])
  have hb3 : b ∉ L2 := fun h => hb0 (by simp [h])
  have hown : OwnS wr kids A' cap' L1 := ⟨h1, h2, h3⟩
  refine ⟨A', cap', ⟨⟨_, _, _, c0, c1, c2, c3⟩, hlt, fun j => hblk.frozen j, L1, hn1', fun w1 hw1 => ?_⟩⟩
  generalize hkk : k0 + 3 * nodes (f.take i) = kk at *
  have q1 := ((hblk.set_ (o0 + i * 4) (.int .i64 (kk : Int))).set_ (o0 + i * 4 + 1) (.int .i64 ((kk : Int) + 1))).below hw1 hlt
  have q3 := q1.set_ (o0 + i * 4 + 2) (.string (mtext (kk + 2)))
  have d2 : ∃ v, w1.cell? ⟨b, o0 + i * 4 + 2, none⟩ = some v := by
    rw [q1.cell]
    simp only [Array.getElem?_setIfInBounds]
    rw [if_neg (by omega), if_neg (by omega), ← hblk.cell]
    exact ⟨_, c2⟩
  have d3 : w1.cell? ⟨b, o0 + i * 4 + 3, none⟩ = some (.slice A' kids.len cap') := by
    rw [q1.cell]
    simp only [Array.getElem?_setIfInBounds]
    rw [if_neg (by omega), if_neg (by omega), ← hblk.cell]
    exact c3
  have d4 : w1.frozen? ⟨b, o0 + i * 4 + 2, none⟩ = false := q1.frozen _
  have far : ∀ x, x < wr.heap.size → x ≠ b → (w1.setCell ⟨b, o0 + i * 4 + 2, none⟩ (.string (mtext (kk + 2)))).heap[x]? = wr.heap[x]? := fun x hx hne => by
    rw [heap_setCell_other _ _ _ _ (show x ≠ b from hne), hw1.block x hx, heap_setCell_other _ _ _ _ (show x ≠ b from hne), heap_setCell_other _ _ _ _ (show x ≠ b from hne)]
  have hw3 : Wrote (b :: (La ++ (L1 ++ L2))) w (w1.setCell ⟨b, o0 + i * 4 + 2, none⟩ (.string (mtext (kk + 2)))) := by
    have hs1 : wr.heap.size ≤ w1.heap.size := by have := hw1.size; simpa [World.setCell] using this
    refine hwr.trans ⟨hw1.os, hw1.tape, hw1.output, by simpa [World.setCell] using hs1, fun x hx hn => far x hx fun e => hn (by simp [e])⟩
  have hs3 : wr.heap.size ≤ (w1.setCell ⟨b, o0 + i * 4 + 2, none⟩ (.string (mtext (kk + 2)))).heap.size := by
    have := hw1.size; simpa [World.setCell] using this
  generalize w1.setCell ⟨b, o0 + i * 4 + 2, none⟩ (.string (mtext (kk + 2))) = w3 at *
  have hla : ∀ x ∈ La, x < wr.heap.size := fun x hx => OwnAt.lt _ b o0 La hfront x hx
  have hl2 : ∀ x ∈ L2, x < wr.heap.size := fun x hx => OwnAt.lt _ b (o0 + i * 4 + 4) L2 hr x hx
  refine ⟨⟨d2, d4, d3⟩, hown.keep fun x hx => far x (hown.lt x hx) fun e => hb2 (e ▸ hx), fun w4 ho4 hw4 => ?_⟩
  have hb4 : b ∉ L1 := hb2
  have q4 := hw4.blk q3 hb2
  refine ⟨La ++ L1, L2, _, by simp, ?_, ?_, q4, by simpa using hsz, hw3.trans (hw4.more fun x hx => by simp [hx])⟩
  · rw [Fr.take_succ i f hd, markF_app]
    rw [hkk]
    have hfl : (markF (f.take i) k0).len = i := by rw [markF_len, hlen]
    refine OwnAt.snoc (markF (f.take i) k0) ⟨⟨by omega, by omega⟩, ⟨by omega, by omega⟩, ?_⟩ ho4 b o0 La ?_ ?_ ?_ ?_ ?_
    · have := mtext_size (kk + 2); unfold maxLen; omega
    · refine OwnAt.keep (markF (f.take i) k0) b o0 La hfront (fun j hj => ?_) fun x hx => ?_
      · rw [hfl] at hj
        rw [q4.cell, hblk.cell]
        simp only [Array.getElem?_setIfInBounds]
        rw [if_neg (by omega), if_neg (by omega), if_neg (by omega)]
      · rw [hw4.block x (by have := hla x hx; omega) fun e => hab x hx x (by simp [e]) rfl]
        exact far x (hla x hx) fun e => hb1 (e ▸ hx)
    · rw [hfl, q4.cell]; simp [Array.getElem?_setIfInBounds]; omega
    · rw [hfl, q4.cell]; simp [Array.getElem?_setIfInBounds]; omega
    · rw [hfl, q4.cell]; simp [Array.getElem?_setIfInBounds]; omega
    · rw [hfl, q4.cell, markF_len]
      simp only [Array.getElem?_setIfInBounds]
      rw [if_neg (by omega), if_neg (by omega), if_neg (by omega), ← hblk.cell]
      exact c3
  · have e1 : f.drop (i + 1) = rest := by
      obtain ⟨_, _, _, _, h⟩ := Fr.drop_cons i f hi
      rw [hd] at h
      injection h with _ _ _ _ h
      exact h.symm
    rw [e1, show o0 + (i + 1) * 4 = o0 + i * 4 + 4 by omega]
    refine OwnAt.keep rest b (o0 + i * 4 + 4) L2 hr (fun j hj => ?_) fun x hx => ?_
    · rw [q4.cell, hblk.cell]
      simp only [Array.getElem?_setIfInBounds]
      rw [if_neg (by omega), if_neg (by omega), if_neg (by omega)]
    · rw [hw4.block x (by have := hl2 x hx; omega) fun e => h12 x e x hx rfl]
      exact far x (hl2 x hx) fun e => hb3 (e ▸ hx)
theorem MkQ.start {w : World} {f : Fr} {b o0 cap k0 : Nat} {L' : List Nat} {cs : Array Value} (hblk : Blk w b 29 cs) (hs : cs.size = o0 + cap * 4) (ho : OwnAt w f b o0 L') : MkQ w f b o0 cap L' k0 0 w :=
  ⟨[], L', cs, rfl, rfl, by simpa [Fr.drop] using ho, hblk, hs, .refl _ _⟩
theorem MkQ.done {w wr : World} {f : Fr} {b o0 cap k0 : Nat} {L' : List Nat} (h : MkQ w f b o0 cap L' k0 f.len wr) (hl : f.len ≤ cap) (hc : cap ≤ maxLen) : OwnSo wr (markF f k0) (some ⟨b, o0, none⟩) cap (b :: L') ∧ Wrote (b :: L') w wr := by
  obtain ⟨La, Lb, cs, rfl, hfront, hback, hblk, hsz, hwr⟩ := h
  rw [Fr.drop_len] at hback
  obtain rfl : Lb = [] := hback
  rw [Fr.take_len] at hfront
  rw [List.append_nil] at hwr ⊢
  exact ⟨⟨by rw [markF_len]; exact hl, hc, .inr ⟨b, o0, La, cs, rfl, rfl, hblk, hsz, hfront⟩⟩, hwr⟩
/-- What marking such a row leaves. -/
def MarkedSo (w : World) (f : Fr) (A : Option Addr) (cap : Nat) (L : List Nat) (k : Nat) (e : Ending) (w' : World) : Prop :=
  e = .returned (.int .i64 ((k + 3 * nodes f : Nat) : Int)) ∧ OwnSo w' (markF f k) A cap L ∧ Wrote L w w'
set_option maxRecDepth 100000 in
set_option maxHeartbeats 2000000 in
/-- laws.markTermS on such a row. -/
theorem markSo_any (f : Fr) (A : Option Addr) (cap k0 : Nat) (L : List Nat) (w : World) (ho : OwnSo w f A cap L) (hnd : L.Nodup) (hk : k0 + 3 * nodes f ≤ 1099511627776) (hk0 : 0 < k0) :
    Calls Tryd.prog 42 #[.slice A f.len cap, .int .i64 (k0 : Int)] w fun e w' => MarkedSo w f A cap L k0 e w' := by
  have h : ∀ i k n s kids rest, f.drop i = .cons k n s kids rest → MarkS kids := fun i k n s kids rest _ => markS_any kids
  rcases ho with ⟨hcap, hmax, ⟨hz, rfl⟩ | ⟨b, o0, L', cs, rfl, rfl, hblk, hcs, hown⟩⟩
  · have hnil : f = .nil := by
      cases f with
      | nil => rfl
      | cons _ _ _ _ _ => simp [Fr.len] at hz
    subst hnil
    have e0 : (Fr.nil.len : Int) = 0 := rfl
    have HM : Hid (MarkedSo w .nil A cap [] k0 (.returned (.int .i64 (k0 : Int))) w) := Lib.hid ⟨rfl, ⟨Nat.zero_le _, hmax, .inl ⟨rfl, rfl⟩⟩, .refl _ _⟩
    clear h hk hnd hcap hz hmax
    go_enter Tryd.func42, Tryd.ntmps42
    go_wp2_with fail
    go_loop [5, 1] (fun i k => i = .int .i64 0 ∧ k = .int .i64 (k0 : Int)) (fun _ _ => 0)
    case atStart => exact ⟨rfl, rfl⟩
    case round =>
      obtain ⟨rfl, rfl⟩ := hrel
      go_wp2_with fail
      go_ret
      exact HM.out
  · have h0 := MkQ.start (k0 := k0) hblk hcs hown
    have HFIN : Hid (∀ wr, MkQ w f b o0 cap L' k0 f.len wr → OwnSo wr (markF f k0) (some ⟨b, o0, none⟩) cap (b :: L') ∧ Wrote (b :: L') w wr) := Lib.hid fun wr h => h.done hcap hmax
    have HST := Lib.hid h0
    have HND := Lib.hid hnd
    have HH := Lib.hid h
    have HK := Lib.hid hk
    have HCAP := Lib.hid hcap
    have hl : f.len ≤ 1099511627776 := by have := len_le_nodes f; omega
    clear h0 hown hnd h hblk hcs hmax
    unfold maxLen at *
    generalize hn : f.len = len at *
    have HN := Lib.hid hn
    clear hn
    go_enter Tryd.func42, Tryd.ntmps42
    go_wp2_with fail
    go_loopw [5, 1] (fun i k wr => ∃ (j kk : Nat), j ≤ len ∧ i = .int .i64 j ∧ k = .int .i64 kk ∧ kk = k0 + 3 * nodes (f.take j) ∧ MkQ w f b o0 cap L' k0 j wr) (fun i _ _ => len - (intOf i).toNat)
    case atStart => exact ⟨0, k0, Nat.zero_le _, rfl, rfl, rfl, HST.out⟩
    case round =>
      obtain ⟨j, kk, hj, rfl, rfl, hkk, hp⟩ := hrel
      by_cases hlt : j < len
      · obtain ⟨kn, nn, s, kids, hd⟩ := Fr.drop_cons j f (by rw [HN.out]; exact hlt)
        obtain ⟨A', cap', hopen⟩ := hp.open_ hd (by rw [HN.out]; exact hlt) (by rw [HN.out]; exact HCAP.out) HND.out HK.out
        rw [← hkk] at hopen
        obtain ⟨⟨v0, v1, v2, c0, c1, c2, c3⟩, hbw, hfz, K, hKn, hgo⟩ := hopen
        have hsp := nodes_split j f
        have hnt := nodes_take j f hd
        have hn1 : nodes (f.drop j) = 1 + nodes kids + nodes (f.drop (j + 1)) := by rw [hd]; rfl
        have hkb : kk + 3 + 3 * nodes kids ≤ 1099511627776 := by have := HK.out; omega
        have HKK : Hid (kk + 3 + 3 * nodes kids = k0 + 3 * nodes (f.take (j + 1))) := Lib.hid (by omega)
        have C2 : ∀ w1, OwnS w1 kids A' cap' K → Calls Tryd.prog 42 #[.slice A' kids.len cap', .int .i64 ((kk : Int) + 1 + 1 + 1)] w1 fun e w' => MarkedS w1 kids A' cap' K (kk + 3) e w' := fun w1 ho => by
          have h := HH.out _ _ _ _ _ _ hd A' cap' (kk + 3) K w1 ho hKn (by omega) (by omega)
          rwa [show ((kk + 3 : Nat) : Int) = (kk : Int) + 1 + 1 + 1 by omega] at h
        have C1 : ∀ w1, Calls Tryd.prog 68 #[.int .i64 ((kk : Int) + 1 + 1)] w1 fun e w' => e = .returned (.string (mtext (kk + 2))) ∧ Below w1.heap.size w1 w' := fun w1 => by
          have h := markText_any (kk + 2) w1 (by omega) (by omega)
          rwa [show ((kk + 2 : Nat) : Int) = (kk : Int) + 1 + 1 by omega] at h
        have hf0 := hfz (o0 + j * 4)
        have hf1 := hfz (o0 + j * 4 + 1)
        have hf2 := hfz (o0 + j * 4 + 2)
        have HGO := Lib.hid hgo
        have H1 := Lib.hid C1
        have H2 := Lib.hid C2
        clear hp hfz hgo C1 C2 hKn hkk hsp hnt hn1 hd
        go_wp2_with fail
        refine (H1.out _).mono ?_
        rintro e w1 ⟨rfl, hb1⟩
        obtain ⟨⟨⟨v3, d2⟩, d4, d3⟩, how, hgo⟩ := HGO.out w1 (hb1.mono (by simp [World.setCell]))
        have HO := Lib.hid how
        have HG2 := Lib.hid hgo
        clear hb1 how hgo HGO c0 c1 c2 c3 hf0 hf1 hf2
        go_wp2_with fail
        refine (H2.out _ HO.out).mono ?_
        rintro e w4 ⟨rfl, ho4, hw4⟩
        have hm := HG2.out w4 ho4 hw4
        have HM := Lib.hid hm
        clear hm ho4 hw4 HG2 HO
        go_wp2_with fail
        go_roundw
        case rel => exact ⟨j + 1, kk + 3 + 3 * nodes kids, by omega, by go_num, rfl, HKK.out, HM.out⟩
        case measure => simp [intOf]; omega
      · obtain rfl : j = len := by omega
        have HE : Hid (kk = k0 + 3 * nodes f) := Lib.hid (by rw [hkk, ← HN.out, Fr.take_len])
        have HF := Lib.hid (HFIN.out wr hp)
        clear hp hkk
        go_wp2_with fail
        go_ret
        unfold MarkedSo
        rw [← HE.out]
        exact ⟨rfl, HF.out⟩

/-- The blocks of a clause whose rows a call made. -/
def OwnClo (w : World) (c : Cl) (A : Option Addr) (cap : Nat) (B : Option Addr) (capB : Nat) (L1 L2 : List Nat) : Prop := OwnS w c.kids A cap L1 ∧ OwnSo w c.body B capB L2 ∧ (L1 ++ L2).Nodup
set_option maxRecDepth 100000 in
set_option maxHeartbeats 1000000 in
/-- laws.markClause. -/
theorem markCo_any (c : Cl) (A B : Option Addr) (cap capB k : Nat) (L1 L2 : List Nat) (w : World) (ho : OwnClo w c A cap B capB L1 L2) (hk : k + 3 * ndC c ≤ 1099511627776) (h0 : 0 < k) :
    Calls Tryd.prog 25 #[.agg #[.int .i64 c.k, .int .i64 c.n, .string c.s, .slice A c.kids.len cap, .slice B c.body.len capB], .int .i64 (k : Int)] w fun e w' => e = .returned (.int .i64 ((k + 3 * ndC c : Nat) : Int)) ∧ OwnClo w' (markC c k) A cap B capB L1 L2 ∧ Wrote (L1 ++ L2) w w' := by
  obtain ⟨kk, nn, s, f, g⟩ := c
  obtain ⟨o1, o2, hn⟩ := ho
  obtain ⟨n1, n2, n12⟩ := List.nodup_append.1 hn
  unfold ndC at *
  simp only at *
  have C1 := fun w1 (hb : Wrote [] w w1) => markT_any kk nn s f A cap k L1 w1 (o1.wrote hb fun x _ => by simp) n1 (by omega) h0
  have C2 := fun w1 (hb : Wrote L1 w w1) => markSo_any g B capB (k + 3 * nodes f) L2 w1 (o2.wrote hb fun x hx h => n12 x h x hx rfl) n2 (by omega) (by omega)
  have e1 : k + 3 * nodes f + 3 * nodes g = k + 3 * (nodes f + nodes g) := by omega
  have hfin : ∀ w2 w3, OwnS w2 (markF f k) A cap L1 → Wrote L1 w w2 → OwnSo w3 (markF g (k + 3 * nodes f)) B capB L2 → Wrote L2 w2 w3 → OwnClo w3 (markC ⟨kk, nn, s, f, g⟩ k) A cap B capB L1 L2 ∧ Wrote (L1 ++ L2) w w3 := fun w2 w3 a1 a2 a3 a4 =>
    ⟨⟨a1.wrote a4 fun x hx h => n12 x hx x h rfl, a3, hn⟩, (a2.more fun x hx => by simp [hx]).trans (a4.more fun x hx => by simp [hx])⟩
  have hq := fun w2 (h : Wrote L1 (w.alloc (.cells #[.int .i64 kk, .int .i64 nn, .string s, .slice A f.len cap, .slice B g.len capB] 38)) w2) => h.blk (Blk.new w 38 #[.int .i64 kk, .int .i64 nn, .string s, .slice A f.len cap, .slice B g.len capB]) (fun hx => by have := o1.lt _ hx; omega)
  have H1 := Lib.hid C1
  have H2 := Lib.hid C2
  have HF := Lib.hid hfin
  have HQ := Lib.hid hq
  have HE := Lib.hid e1
  have HW0 : Hid (Wrote [] w (w.alloc (.cells #[.int .i64 kk, .int .i64 nn, .string s, .slice A f.len cap, .slice B g.len capB] 38))) := Lib.hid ((Wrote.refl [] w).alloc _)
  clear C1 C2 hfin hq o1 o2 hn n1 n2 n12 e1 hk
  generalize f.len = fl at *
  generalize g.len = gl at *
  go_enter Tryd.func25, Tryd.ntmps25
  go_wp2_with fail
  refine (H1.out _ HW0.out).mono ?_
  rintro e w2 ⟨rfl, ho2, hw2⟩
  have a4 := (HQ.out _ hw2).cell 4
  simp only [List.getElem?_toArray, List.getElem?_cons_zero, List.getElem?_cons_succ] at a4
  have hw2' : Wrote L1 w w2 := (HW0.out.more (fun x hx => by simp at hx)).trans hw2
  have HO2 := Lib.hid ho2
  have HW2 := Lib.hid hw2'
  clear ho2 hw2 hw2'
  go_wp2_with fail
  refine (H2.out _ HW2.out).mono ?_
  rintro e w3 ⟨rfl, ho3, hw3⟩
  have h := HF.out _ _ HO2.out HW2.out ho3 hw3
  have HH := Lib.hid h
  clear h ho3 hw3
  rw [HE.out]
  go_wp2_with fail
  go_ret
  exact ⟨rfl, HH.out⟩

def numC (V : List Int) (c : Cl) : Cl := ⟨c.k, renN V c.k c.n, c.s, renF V c.kids, renF V c.body⟩
def rcC (c : Cl) : Cl := if clauseV c = true then numC (allVars c.row) c else ⟨0, 0, ⟨#[]⟩, .nil, .nil⟩
theorem allG_V : ∀ f : Fr, allG f = true → allV f = true
  | .nil, _ => rfl
  | .cons k n s kids rest, h => by
    unfold allG at h
    unfold allV
    rw [Bool.and_eq_true] at h ⊢
    refine ⟨?_, allG_V rest h.2⟩
    have h1 := h.1
    unfold goalV at h1
    rw [Bool.and_eq_true] at h1
    exact h1.1
theorem allV_nodes : ∀ f : Fr, allV f = true → nodes f ≤ 120 * f.len
  | .nil, _ => Nat.zero_le _
  | .cons k n s kids rest, h => by
    unfold allV at h
    rw [Bool.and_eq_true] at h
    have h2 := allV_nodes rest h.2
    have h1 := h.1
    unfold validT at h1
    rw [Bool.and_eq_true, decide_eq_true_iff] at h1
    have h3 := h1.2
    simp only [nodes, Fr.len]
    omega
theorem clauseV_row {c : Cl} (h : clauseV c = true) : allV c.row = true ∧ nodes c.row ≤ 1048576 := by
  unfold clauseV goalsV at h
  rw [Bool.and_eq_true, Bool.and_eq_true, decide_eq_true_iff] at h
  obtain ⟨h1, h2, h3⟩ := h
  have hv : allV c.row = true := by
    show (validT c.k c.n c.s c.kids && allV c.body) = true
    rw [Bool.and_eq_true]
    refine ⟨?_, allG_V _ h3⟩
    unfold plainV at h1
    rw [Bool.and_eq_true] at h1
    exact h1.1
  refine ⟨hv, ?_⟩
  have := allV_nodes _ hv
  have e : c.row.len = c.body.len + 1 := rfl
  omega
theorem rcC_nodes (c : Cl) (h : ndC c ≤ 1048576) : ndC (rcC c) ≤ 1048576 := by
  unfold rcC
  split
  · unfold ndC numC
    simp only [renF_nodes]
    exact h
  · exact Nat.zero_le _

/-- What a call leaves that made one clause, its body within a row. -/
def MadeClo (w : World) (c : Cl) (A : Option Addr) (cap : Nat) (B : Option Addr) (capB : Nat) (w' : World) : Prop :=
  ∃ L1 L2, OwnClo w' c A cap B capB L1 L2 ∧ (∀ x ∈ L1 ++ L2, w.heap.size ≤ x ∧ x < w'.heap.size) ∧ Below w.heap.size w w'
theorem OwnClo.keep {w w' : World} {c : Cl} {A B : Option Addr} {cap capB : Nat} {L1 L2 : List Nat} (h : OwnClo w c A cap B capB L1 L2) (hL : ∀ x ∈ L1 ++ L2, w'.heap[x]? = w.heap[x]?) : OwnClo w' c A cap B capB L1 L2 :=
  ⟨h.1.keep fun x hx => hL x (by simp [hx]), h.2.1.keep fun x hx => hL x (by simp [hx]), h.2.2⟩
theorem OwnClo.lt {w : World} {c : Cl} {A B : Option Addr} {cap capB : Nat} {L1 L2 : List Nat} (h : OwnClo w c A cap B capB L1 L2) : ∀ x ∈ L1 ++ L2, x < w.heap.size := fun x hx => by
  rcases List.mem_append.1 hx with e | e
  · exact h.1.lt x e
  · exact h.2.1.lt x e
theorem OwnClo.nil (w : World) : OwnClo w ⟨0, 0, ⟨#[]⟩, .nil, .nil⟩ none 0 none 0 [] [] :=
  ⟨⟨Nat.le_refl _, Nat.zero_le _, .inl ⟨rfl, rfl⟩⟩, ⟨Nat.le_refl _, Nat.zero_le _, .inl ⟨rfl, rfl⟩⟩, List.nodup_nil⟩
theorem MadeClo.of {w w2 w' : World} {c : Cl} {A B : Option Addr} {cap capB : Nat} {L1 L2 : List Nat} (ho : OwnClo w2 c A cap B capB L1 L2) (hx : ∀ x ∈ L1 ++ L2, w.heap.size + 2 ≤ x) (hb : Below w.heap.size w w') (hsz : w2.heap.size ≤ w'.heap.size)
    (hk : ∀ x, w.heap.size + 2 ≤ x → x < w2.heap.size → w'.heap[x]? = w2.heap[x]?) : MadeClo w c A cap B capB w' :=
  ⟨L1, L2, ho.keep fun x h => hk x (hx x h) (ho.lt x h), fun x h => ⟨by have := hx x h; omega, by have := ho.lt x h; omega⟩, hb⟩
def RcRes (w : World) (c : Cl) (ok : Bool) (e : Ending) (w' : World) : Prop :=
  ∃ A cap B capB, e = .returned (.tuple #[.agg #[.int .i64 c.k, .int .i64 c.n, .string c.s, .slice A c.kids.len cap, .slice B c.body.len capB], .bool ok]) ∧ MadeClo w c A cap B capB w'
theorem far5 {w : World} {g x : Nat} (hx : x ≠ g) (a b c d e : Value) : (((((w.setCell ⟨g, 0, none⟩ a).setCell ⟨g, 1, none⟩ b).setCell ⟨g, 2, none⟩ c).setCell ⟨g, 3, none⟩ d).setCell ⟨g, 4, none⟩ e).heap[x]? = w.heap[x]? := by
  rw [heap_setCell_other _ _ _ _ (show x ≠ g from hx), heap_setCell_other _ _ _ _ (show x ≠ g from hx), heap_setCell_other _ _ _ _ (show x ≠ g from hx), heap_setCell_other _ _ _ _ (show x ≠ g from hx), heap_setCell_other _ _ _ _ (show x ≠ g from hx)]

theorem fin5 {w w2 : World} {g : Nat} (hb : Below w.heap.size w w2) (hg : w.heap.size ≤ g) (a b c d e : Value) : Below w.heap.size w (((((w2.setCell ⟨g, 0, none⟩ a).setCell ⟨g, 1, none⟩ b).setCell ⟨g, 2, none⟩ c).setCell ⟨g, 3, none⟩ d).setCell ⟨g, 4, none⟩ e) ∧
    (((((w2.setCell ⟨g, 0, none⟩ a).setCell ⟨g, 1, none⟩ b).setCell ⟨g, 2, none⟩ c).setCell ⟨g, 3, none⟩ d).setCell ⟨g, 4, none⟩ e).heap.size = w2.heap.size :=
  ⟨((((hb.setCell hg _).setCell hg _).setCell hg _).setCell hg _).setCell hg _, by simp [World.setCell]⟩
/-- The end of a function whose result lies in block w.heap.size + 1. -/
theorem MadeClo.stored {w w2 : World} {cl : Cl} {A B : Option Addr} {cap capB : Nat} {L1 L2 : List Nat} (ho : OwnClo w2 cl A cap B capB L1 L2) (hx : ∀ x ∈ L1 ++ L2, w.heap.size + 2 ≤ x) (hb : Below w.heap.size w w2) (a b c d e : Value) :
    MadeClo w cl A cap B capB (((((w2.setCell ⟨w.heap.size + 1, 0, none⟩ a).setCell ⟨w.heap.size + 1, 1, none⟩ b).setCell ⟨w.heap.size + 1, 2, none⟩ c).setCell ⟨w.heap.size + 1, 3, none⟩ d).setCell ⟨w.heap.size + 1, 4, none⟩ e) := by
  obtain ⟨h1, h2⟩ := fin5 (g := w.heap.size + 1) hb (Nat.le_succ _) a b c d e
  exact .of ho hx h1 (Nat.le_of_eq h2.symm) fun x h _ => far5 (by omega) _ _ _ _ _
theorem MadeClo.storedA {w w2 : World} {cl : Cl} {A B : Option Addr} {cap capB : Nat} {L1 L2 : List Nat} (ho : OwnClo w2 cl A cap B capB L1 L2) (hx : ∀ x ∈ L1 ++ L2, w.heap.size + 2 ≤ x) (hb : Below w.heap.size w w2) (a b c d e : Value) (o : Obj) :
    MadeClo w cl A cap B capB ((((((w2.setCell ⟨w.heap.size + 1, 0, none⟩ a).setCell ⟨w.heap.size + 1, 1, none⟩ b).setCell ⟨w.heap.size + 1, 2, none⟩ c).setCell ⟨w.heap.size + 1, 3, none⟩ d).setCell ⟨w.heap.size + 1, 4, none⟩ e).alloc o) := by
  obtain ⟨h1, h2⟩ := fin5 (g := w.heap.size + 1) hb (Nat.le_succ _) a b c d e
  have h3 : w2.heap.size ≤ ((((((w2.setCell ⟨w.heap.size + 1, 0, none⟩ a).setCell ⟨w.heap.size + 1, 1, none⟩ b).setCell ⟨w.heap.size + 1, 2, none⟩ c).setCell ⟨w.heap.size + 1, 3, none⟩ d).setCell ⟨w.heap.size + 1, 4, none⟩ e).alloc o).heap.size := by simp [World.setCell]
  exact .of ho hx (h1.alloc (by rw [h2]; exact hb.size) _) h3 fun x h hl => (heap_alloc_old _ _ (by rw [h2]; exact hl)).trans (far5 (by omega) _ _ _ _ _)

set_option maxRecDepth 100000 in
set_option maxHeartbeats 4000000 in
/-- spec.l4Renumber. -/
theorem l4Ren_any (c : Cl) (A B : Option Addr) (cap capB : Nat) (L1 L2 : List Nat) (w : World) (ho : OwnCl w c A cap B capB L1 L2) (hf : Fits c.k c.n c.s) (hnd : nodes c.row ≤ 1048576) :
    Calls Tryd.prog 62 #[.agg #[.int .i64 c.k, .int .i64 c.n, .string c.s, .slice A c.kids.len cap, .slice B c.body.len capB]] w fun e w' =>
      ∃ A' cap' B' capB', e = .returned (.agg #[.int .i64 (numC (allVars c.row) c).k, .int .i64 (numC (allVars c.row) c).n, .string (numC (allVars c.row) c).s, .slice A' (numC (allVars c.row) c).kids.len cap', .slice B' (numC (allVars c.row) c).body.len capB']) ∧ MadeClo w (numC (allVars c.row) c) A' cap' B' capB' w' := by
  have C2 := fun A1 cap1 w1 (hk : KidsAt w1 0 w1.heap.size c.row A1 cap1) => specRen_any c.row A1 cap1 0 w1.heap.size w1 hk (Nat.le_refl _) hnd
  have hgl : c.body.len ≤ 1048576 := by
    have := len_le_nodes c.row
    have e : c.row.len = c.body.len + 1 := rfl
    omega
  obtain ⟨k, n, s, f, g⟩ := c
  obtain ⟨o1, o2, hn⟩ := ho
  unfold numC Cl.row at *
  simp only at *
  generalize allVars (.cons k n s f g) = V at *
  unfold MadeS at C2
  have ef : (Fr.cons k n s f g).len = g.len + 1 := rfl
  have er : renF V (.cons k n s f g) = .cons k (renN V k n) s (renF V f) (renF V g) := rfl
  have eg : (Fr.cons k (renN V k n) s (renF V f) (renF V g)).len = (renF V g).len + 1 := rfl
  have el := renF_len V g
  rw [ef, er, eg] at C2
  generalize renN V k n = n' at *
  generalize renF V f = f' at *
  generalize renF V g = g' at *
  have hba : Below w.heap.size w ((w.alloc (.cells #[.int .i64 k, .int .i64 n, .string s, .slice A f.len cap, .slice B g.len capB] 38)).alloc (.cells #[.int .i64 0, .int .i64 0, .string ⟨#[]⟩, .slice none 0 0, .slice none 0 0] 38)) := two_alloc w _ _
  have hb0 : Below ((w.alloc (.cells #[.int .i64 k, .int .i64 n, .string s, .slice A f.len cap, .slice B g.len capB] 38)).alloc (.cells #[.int .i64 0, .int .i64 0, .string ⟨#[]⟩, .slice none 0 0, .slice none 0 0] 38)).heap.size ((w.alloc (.cells #[.int .i64 k, .int .i64 n, .string s, .slice A f.len cap, .slice B g.len capB] 38)).alloc (.cells #[.int .i64 0, .int .i64 0, .string ⟨#[]⟩, .slice none 0 0, .slice none 0 0] 38)) (((w.alloc (.cells #[.int .i64 k, .int .i64 n, .string s, .slice A f.len cap, .slice B g.len capB] 38)).alloc (.cells #[.int .i64 0, .int .i64 0, .string ⟨#[]⟩, .slice none 0 0, .slice none 0 0] 38)).alloc (.cells #[.int .i64 k, .int .i64 n, .string s, .slice A f.len cap] 29)) := (Below.refl _ _).alloc (Nat.le_refl _) _
  have hq := Blk.new ((w.alloc (.cells #[.int .i64 k, .int .i64 n, .string s, .slice A f.len cap, .slice B g.len capB] 38)).alloc (.cells #[.int .i64 0, .int .i64 0, .string ⟨#[]⟩, .slice none 0 0, .slice none 0 0] 38)) 29 #[.int .i64 k, .int .i64 n, .string s, .slice A f.len cap]
  have p0 : Blk ((w.alloc (.cells #[.int .i64 k, .int .i64 n, .string s, .slice A f.len cap, .slice B g.len capB] 38)).alloc (.cells #[.int .i64 0, .int .i64 0, .string ⟨#[]⟩, .slice none 0 0, .slice none 0 0] 38)) w.heap.size 38 #[.int .i64 k, .int .i64 n, .string s, .slice A f.len cap, .slice B g.len capB] := (Blk.new w _ _).alloc _
  have p1 : Blk ((w.alloc (.cells #[.int .i64 k, .int .i64 n, .string s, .slice A f.len cap, .slice B g.len capB] 38)).alloc (.cells #[.int .i64 0, .int .i64 0, .string ⟨#[]⟩, .slice none 0 0, .slice none 0 0] 38)) (w.heap.size + 1) 38 #[.int .i64 0, .int .i64 0, .string ⟨#[]⟩, .slice none 0 0, .slice none 0 0] := by
    have h := Blk.new (w.alloc (.cells #[.int .i64 k, .int .i64 n, .string s, .slice A f.len cap, .slice B g.len capB] 38)) 38 #[.int .i64 0, .int .i64 0, .string ⟨#[]⟩, .slice none 0 0, .slice none 0 0]
    simpa using h
  have hs0 : ((w.alloc (.cells #[.int .i64 k, .int .i64 n, .string s, .slice A f.len cap, .slice B g.len capB] 38)).alloc (.cells #[.int .i64 0, .int .i64 0, .string ⟨#[]⟩, .slice none 0 0, .slice none 0 0] 38)).heap.size = w.heap.size + 1 + 1 := by simp
  have hbT := hba.trans (hb0.mono hba.size)
  have h1 := o1.below hbT o1.lt
  have h2 := o2.below hbT o2.lt
  have n1 : w.heap.size + 1 + 1 ∉ L1 := fun e => by have := o1.lt _ e; omega
  have n2 : w.heap.size + 1 + 1 ∉ L2 := fun e => by have := o2.lt _ e; omega
  have hhh : ((w.alloc (.cells #[.int .i64 k, .int .i64 n, .string s, .slice A f.len cap, .slice B g.len capB] 38)).alloc (.cells #[.int .i64 0, .int .i64 0, .string ⟨#[]⟩, .slice none 0 0, .slice none 0 0] 38)).heap.size ≤ w.heap.size + 1 + 1 := Nat.le_of_eq hs0
  rw [hs0] at hq
  have hp : ∀ y', Below ((w.alloc (.cells #[.int .i64 k, .int .i64 n, .string s, .slice A f.len cap, .slice B g.len capB] 38)).alloc (.cells #[.int .i64 0, .int .i64 0, .string ⟨#[]⟩, .slice none 0 0, .slice none 0 0] 38)).heap.size ((w.alloc (.cells #[.int .i64 k, .int .i64 n, .string s, .slice A f.len cap, .slice B g.len capB] 38)).alloc (.cells #[.int .i64 0, .int .i64 0, .string ⟨#[]⟩, .slice none 0 0, .slice none 0 0] 38)) y' → Below w.heap.size w y' ∧ Blk y' w.heap.size 38 #[.int .i64 k, .int .i64 n, .string s, .slice A f.len cap, .slice B g.len capB] ∧ Blk y' (w.heap.size + 1) 38 #[.int .i64 0, .int .i64 0, .string ⟨#[]⟩, .slice none 0 0, .slice none 0 0] ∧ w.heap.size + 1 + 1 ≤ y'.heap.size := fun y' h =>
    ⟨hba.trans (h.mono hba.size), p0.below h p0.lt, p1.below h p1.lt, by have := h.size; rwa [hs0] at this⟩
  have HB0 := Lib.hid hb0
  have HQ := Lib.hid hq
  have HP := Lib.hid hp
  have H1 := Lib.hid h1
  have H2 := Lib.hid h2
  have HF := Lib.hid hf
  have HG := Lib.hid hgl
  have HN1 := Lib.hid n1
  have HN2 := Lib.hid n2
  have HHH := Lib.hid hhh
  have HC := Lib.hid C2
  clear o1 o2 hb0 hq h1 h2 hf hgl n1 n2 hhh C2 hnd hn p0 p1 hs0 ef er eg hp hba hbT
  go_enter Tryd.func62, Tryd.ntmps62
  go_wp2_with (at_builtin; go_must (refine wpList_hab rfl _ _ rfl HB0.out HHH.out HQ.out HF.out H1.out H2.out HN1.out HN2.out HG.out rfl rfl ?_); rintro v y' ⟨A', cap', b', rfl, hbw, hown, hb1, hsz⟩)
  obtain ⟨hy, q0, q1, hsy⟩ := HP.out y' hbw
  have hky := hown.kids (lo := 0) (hi := y'.heap.size) fun x hx => ⟨Nat.zero_le _, hown.lt x hx⟩
  have HY := Lib.hid hy
  have HQ0 := Lib.hid q0
  have HQ1 := Lib.hid q1
  have HK := Lib.hid hky
  clear hbw hown hb1 hsz hy q0 q1 hky HP HB0 HQ H1 H2 HF HG HN1 HN2 HHH
  go_wp2_with fail
  refine (HC.out _ _ _ HK.out).mono ?_
  rintro e w2 ⟨A2, cap2, rfl, L, hL, hLn, hLx, hb2⟩
  obtain ⟨b, Af, capf, M1, M2, rfl, hc1, hc2, hfit, ⟨d0, d1, d2, d3⟩, hbl, hm1, hm2, hmn, hmL⟩ := hL.tail hLn
  have q0 := HQ0.out.below hb2 HQ0.out.lt
  have q1 := HQ1.out.below hb2 HQ1.out.lt
  have a4 := q0.cell 4
  simp only [List.getElem?_toArray, List.getElem?_cons_zero, List.getElem?_cons_succ] at a4
  obtain ⟨c0, c1, c2, c3, c4⟩ := ccells5 q1
  obtain ⟨f0, f1, f2, f3, f4⟩ := cfrozen5 q1
  have hs2 := hb2.size
  have z0 : w.heap.size < w2.heap.size := by omega
  have z1 : w.heap.size + 1 < w2.heap.size := by omega
  have HW2 : Hid (Below w.heap.size w w2) := Lib.hid (HY.out.trans (hb2.mono HY.out.size))
  have HR1 := Lib.hid q1
  have HM : Hid (OwnClo w2 ⟨k, n', s, f', g'⟩ Af capf (some ⟨b, 4, none⟩) (cap2 - 1) M1 M2) := Lib.hid ⟨hm1, hm2, hmn⟩
  have HX : Hid (∀ x ∈ M1 ++ M2, w.heap.size + 2 ≤ x) := Lib.hid fun x hx => by have := (hLx x (hmL x hx)).1; omega
  have HEL := Lib.hid el
  clear hL hLn hLx hb2 hfit hm1 hm2 hmn hmL q0 q1 HQ0 HQ1 HK HC HY el hs2
  have t0 : (0 : Int) < ((g'.len + 1 : Nat) : Int) := by omega
  have t1 : (1 : Int) ≤ ((g'.len + 1 : Nat) : Int) := by omega
  by_cases hg : 0 < g.len
  · have hne : ¬ cap2 = 1 := by have := HEL.out; omega
    go_wp2_with fail
    refine bodyPost_ret (v := .agg #[.int .i64 k, .int .i64 n', .string s, .slice Af f'.len capf, .slice (some ⟨b, 4, none⟩) g'.len (cap2 - 1)]) ?_ rfl ⟨Af, capf, some ⟨b, 4, none⟩, cap2 - 1, rfl, MadeClo.storedA HM.out HX.out HW2.out _ _ _ _ _ _⟩
    exact results_cell_row Tryd.results62 _ _ (w.heap.size + 1) _ _ _ _ rfl ((cset5 HR1.out _ _ _ _ _).alloc _) Tryd.underlying38 rfl (by kernel_rfl)
  · have hz : g'.len = 0 := by have := HEL.out; omega
    have HM2 : Hid (OwnClo w2 ⟨k, n', s, f', g'⟩ Af capf none 0 M1 []) := Lib.hid ⟨HM.out.1, ⟨by simp only; omega, Nat.zero_le _, .inl ⟨hz, rfl⟩⟩, by rw [List.append_nil]; exact (List.nodup_append.1 HM.out.2.2).1⟩
    have HX2 : Hid (∀ x ∈ M1 ++ [], w.heap.size + 2 ≤ x) := Lib.hid fun x hx => HX.out x (by simp at hx; simp [hx])
    go_wp2_with fail
    refine bodyPost_ret (v := .agg #[.int .i64 k, .int .i64 n', .string s, .slice Af f'.len capf, .slice none 0 0]) ?_ rfl ⟨Af, capf, none, 0, ?_, MadeClo.storedA HM2.out HX2.out HW2.out _ _ _ _ _ _⟩
    · exact results_cell_row Tryd.results62 _ _ (w.heap.size + 1) _ _ _ _ rfl ((cset5 HR1.out _ _ _ _ _).alloc _) Tryd.underlying38 rfl (by kernel_rfl)
    · rw [hz]

set_option maxRecDepth 100000 in
set_option maxHeartbeats 2000000 in
/-- spec.RenumberClause. -/
theorem specRC_any (c : Cl) (A B : Option Addr) (cap capB : Nat) (L1 L2 : List Nat) (w : World) (ho : OwnCl w c A cap B capB L1 L2) (hf : Fits c.k c.n c.s) (hnd : nodes c.kids ≤ 1048576) (hndb : nodes c.body ≤ 1048576) :
    Calls Tryd.prog 23 #[.agg #[.int .i64 c.k, .int .i64 c.n, .string c.s, .slice A c.kids.len cap, .slice B c.body.len capB]] w fun e w' => RcRes w (rcC c) (clauseV c) e w' := by
  have C1 := fun w1 (hb : Below w.heap.size w w1) => specCV_any c A B cap capB 0 w1.heap.size w1 ((ho.1.below hb ho.1.lt).kids fun x hx => ⟨Nat.zero_le _, Nat.lt_of_lt_of_le (ho.1.lt x hx) hb.size⟩) ((ho.2.1.below hb ho.2.1.lt).kids fun x hx => ⟨Nat.zero_le _, Nat.lt_of_lt_of_le (ho.2.1.lt x hx) hb.size⟩) (Nat.le_refl _) hf hnd hndb
  have C2 := fun w1 (hb : Below w.heap.size w w1) (hv : clauseV c = true) => l4Ren_any c A B cap capB L1 L2 w1 ⟨ho.1.below hb ho.1.lt, ho.2.1.below hb ho.2.1.lt, ho.2.2⟩ hf (clauseV_row hv).2
  have e1 : clauseV c = true → rcC c = numC (allVars c.row) c := fun h => by unfold rcC; rw [if_pos h]
  have e2 : clauseV c = false → rcC c = ⟨0, 0, ⟨#[]⟩, .nil, .nil⟩ := fun h => by unfold rcC; rw [if_neg (by rw [h]; simp)]
  generalize numC (allVars c.row) c = R at *
  generalize rcC c = Q at *
  generalize clauseV c = v at *
  obtain ⟨k, n, s, f, g⟩ := c
  simp only at *
  have hba : Below w.heap.size w ((w.alloc (.cells #[.int .i64 k, .int .i64 n, .string s, .slice A f.len cap, .slice B g.len capB] 38)).alloc (.cells #[.int .i64 0, .int .i64 0, .string ⟨#[]⟩, .slice none 0 0, .slice none 0 0] 38)) := two_alloc w _ _
  have p0 : Blk ((w.alloc (.cells #[.int .i64 k, .int .i64 n, .string s, .slice A f.len cap, .slice B g.len capB] 38)).alloc (.cells #[.int .i64 0, .int .i64 0, .string ⟨#[]⟩, .slice none 0 0, .slice none 0 0] 38)) w.heap.size 38 #[.int .i64 k, .int .i64 n, .string s, .slice A f.len cap, .slice B g.len capB] := (Blk.new w _ _).alloc _
  have p1 : Blk ((w.alloc (.cells #[.int .i64 k, .int .i64 n, .string s, .slice A f.len cap, .slice B g.len capB] 38)).alloc (.cells #[.int .i64 0, .int .i64 0, .string ⟨#[]⟩, .slice none 0 0, .slice none 0 0] 38)) (w.heap.size + 1) 38 #[.int .i64 0, .int .i64 0, .string ⟨#[]⟩, .slice none 0 0, .slice none 0 0] := by
    have h := Blk.new (w.alloc (.cells #[.int .i64 k, .int .i64 n, .string s, .slice A f.len cap, .slice B g.len capB] 38)) 38 #[.int .i64 0, .int .i64 0, .string ⟨#[]⟩, .slice none 0 0, .slice none 0 0]
    simpa using h
  have hs0 : ((w.alloc (.cells #[.int .i64 k, .int .i64 n, .string s, .slice A f.len cap, .slice B g.len capB] 38)).alloc (.cells #[.int .i64 0, .int .i64 0, .string ⟨#[]⟩, .slice none 0 0, .slice none 0 0] 38)).heap.size = w.heap.size + 2 := by simp
  have H1 := Lib.hid (C1 _ hba)
  have H2 := Lib.hid C2
  clear C1 C2 ho hf hnd hndb
  go_enter Tryd.func23, Tryd.ntmps23
  go_wp2_with fail
  generalize ((w.alloc (.cells #[.int .i64 k, .int .i64 n, .string s, .slice A f.len cap, .slice B g.len capB] 38)).alloc (.cells #[.int .i64 0, .int .i64 0, .string ⟨#[]⟩, .slice none 0 0, .slice none 0 0] 38)) = W0 at *
  refine H1.out.mono ?_
  rintro e w2 ⟨rfl, hb⟩
  have q0 := p0.below hb p0.lt
  have q1 := p1.below hb p1.lt
  obtain ⟨a0, a1, a2, a3, a4⟩ := ccells5 q0
  obtain ⟨c0, c1, c2, c3, c4⟩ := ccells5 q1
  obtain ⟨f0, f1, f2, f3, f4⟩ := cfrozen5 q1
  have hw2 := hba.trans (hb.mono hba.size)
  have hs2 : w.heap.size + 2 ≤ w2.heap.size := by have := hb.size; rwa [hs0] at this
  have HW2 := Lib.hid hw2
  have HR1 := Lib.hid q1
  have E1 := Lib.hid e1
  have E2 := Lib.hid e2
  clear hb hw2 q0 q1 p0 p1 hba hs0 H1 e1 e2
  cases v
  · have HV := Lib.hid (E2.out rfl)
    clear E1 E2 H2
    go_wp2_with fail
    refine bodyPost_ret (v := .tuple #[.agg #[.int .i64 0, .int .i64 0, .string ⟨#[]⟩, .slice none 0 0, .slice none 0 0], .bool false]) ?_ rfl ?_
    · exact results_cell_row2 Tryd.results23 _ _ (w.heap.size + 1) _ _ _ _ rfl (cset5 HR1.out _ _ _ _ _) Tryd.underlying38 rfl (by kernel_rfl)
    · rw [HV.out]
      exact ⟨none, 0, none, 0, rfl, MadeClo.stored (OwnClo.nil _) (fun x hx => by simp at hx) HW2.out _ _ _ _ _⟩
  · have HV := Lib.hid (E1.out rfl)
    have C := H2.out w2 HW2.out rfl
    have H3 := Lib.hid C
    clear E1 E2 H2 C
    go_wp2_with fail
    refine H3.out.mono ?_
    rintro e w3 ⟨A', cap', B', capB', rfl, M1, M2, hm, hx, hb⟩
    have q1 := HR1.out.below hb HR1.out.lt
    obtain ⟨c0, c1, c2, c3, c4⟩ := ccells5 q1
    obtain ⟨f0, f1, f2, f3, f4⟩ := cfrozen5 q1
    have HW3 := Lib.hid (HW2.out.trans (hb.mono HW2.out.size))
    have HR3 := Lib.hid q1
    have HM := Lib.hid hm
    have HX : Hid (∀ x ∈ M1 ++ M2, w.heap.size + 2 ≤ x) := Lib.hid fun x h => Nat.le_trans hs2 (hx x h).1
    clear hb q1 hm hx
    obtain ⟨rk, rn, rs, rf, rg⟩ := R
    simp only at *
    go_wp2_with fail
    refine bodyPost_ret (v := .tuple #[.agg #[.int .i64 rk, .int .i64 rn, .string rs, .slice A' rf.len cap', .slice B' rg.len capB'], .bool true]) ?_ rfl ?_
    · exact results_cell_row2 Tryd.results23 _ _ (w.heap.size + 1) _ _ _ _ rfl (cset5 HR3.out _ _ _ _ _) Tryd.underlying38 rfl (by kernel_rfl)
    · rw [HV.out]
      exact ⟨A', cap', B', capB', rfl, MadeClo.stored HM.out HX.out HW3.out _ _ _ _ _⟩
end Go.Proofs.YtojilompidmfiaaDoor
