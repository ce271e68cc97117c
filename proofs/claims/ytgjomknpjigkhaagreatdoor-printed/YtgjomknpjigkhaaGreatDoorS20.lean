import Derived.Test.YtgjomknpjigkhaaGreatDoorS19
namespace Go.Proofs.YtgjomknpjigkhaaGreatDoor
set_option maxRecDepth 100000
set_option maxHeartbeats 4000000
section
open Go.RowKit
structure Added (w:World) (base:Nat) (X:List Nat) (B o:Nat) (cs:Array Value) (tv mv:Value) (ns:List ByteArray) (s:ByteArray) (w':World):Prop where
 set:∃ tv' mv',CellsAt w' B ((cs.setIfInBounds (o+1) mv').setIfInBounds o tv')∧SetV w' base X tv' mv' (ns++[s])∧(∀ j,tv'.ownBlock=some j→tv.ownBlock=some j∨w.heap.size≤j)∧(∀ r,mv' = .map (some r)→mv=.map (some r)∨w.heap.size≤r)
 keep:∃ T,Keeps T w w'∧∀ j∈T,j=B∨tv.ownBlock=some j∨mv=.map (some j)
theorem str_one {W:World} {s:ByteArray}:∀ (j:Nat) (u:Value),[Value.string s][j]?=some u→(W.alloc (.cells #[.string s] 9)).cell? ((⟨W.heap.size,0,none⟩:Addr).add j)=some u:=by
 intro j u hu
 rw [Addr.add_lit,Nat.zero_add,(CellsAt.new W #[.string s] 9).cell]
 match j with
 | 0=>simpa using hu
 | j+1=>simp at hu
theorem make_map (w:World):(Instr.makeMap 137 none).run Tryz.prog w=.ok (.map (some w.heap.size)) (w.alloc (.map #[] 0)):=by
 first
  | rfl
  | (simp [Instr.makeMap,go_sem];done)
  | kernel_rfl
theorem map_nil (r:Option Nat) (w:World):(binOp .eql 137 (.map r) (.map none)).run Tryz.prog w=.ok (.bool r.isNone) w:=by
 simp only [binOp]
 have:(Op.equalIn 10000 137 (.map r) (.map none)).run Tryz.prog w=.ok r.isNone w:=by
  unfold Op.equalIn
  simp only [Sem.run_bind,run_underlying Tryz.underlying137,Result.andThen_ok]
  cases r <;> rfl
 simp [Op.equal,Op.maxDepth,this]
theorem add_some {w:World} {base:Nat} {X:List Nat} {B o r:Nat} {cs:Array Value} {tv:Value} {ns:List ByteArray} {s:ByteArray} (hB:CellsAt w B cs) (h0:cs[o]?=some tv) (h1:cs[o+1]?=some (.map (some r))) (hBX:B∈X) (hX:∀ j∈X,j<w.heap.size) (hs:SetV w base X tv (.map (some r)) ns) (hm:MapIs eS eI w r (numb ns)) (hl:ns.length≤1000000) (hp:placeB ns s=none) :
  Calls Tryz.prog 72 #[.pointer (some ⟨B,o,none⟩),.string s] w fun e w'=>e=.returned (.int .i64 ns.length)∧Added w base X B o cs tv (.map (some r)) ns s w':=by
 obtain ⟨i0,hi0,hz0,hz1,hz2⟩:=info_parts info9
 have hlk:=run_look (P:=Tryz.prog) Tryz.underlying137 key9 (z:=.int .i64 0) zero3 hm s true
 rw [get_numb,hp] at hlk
 simp only [eS,if_true,Option.map_none,Option.getD_none,Option.isSome_none] at hlk
 obtain ⟨ob,hrun,hmm⟩:=run_upd (P:=Tryz.prog) Tryz.underlying137 key9 hm s (ns.length:Int)
 rw [numb_push hp] at hmm
 simp only [eS,eI] at hrun
 have c0:w.cell? ⟨B,o,none⟩=some tv:=by rw [hB.cell];exact h0
 have c1:w.cell? ⟨B,o+1,none⟩=some (.map (some r)):=by rw [hB.cell];exact h1
 obtain ⟨ay,cy,hty⟩:=ownE_len hs.row
 subst hty
 have hrB:r≠B:=by
  rintro rfl
  obtain ⟨t,ht⟩:=hB
  obtain ⟨es,clock,hh,_⟩:=hm
  rw [ht] at hh
  cases hh
 obtain ⟨hr1,hr2⟩:r∉X∧(Value.slice ay ns.length cy).ownBlock≠some r:=by
  rcases hs.map with ⟨h,_⟩ | ⟨r',h,_,_,h4,h5⟩
  ·cases h
  ·cases h;exact ⟨h4,h5⟩
 have kb:=Keeps.blk w r ob
 have hB2:=hB.keeps kb (by simp;exact fun e=>hrB e.symm)
 have own2:=ownsRow_kept hs.row kb (fun j hj hT=>hr2 (by have e:j=r:=(by simpa using hT);rw [←e];exact hj))
 generalize hW:blk w r ob=W at *
 have d0:W.cell? ⟨B,o,none⟩=some (.slice ay ns.length cy):=by rw [hB2.cell];exact h0
 have kA:=Keeps.alloc [] W (.cells #[.string s] 9)
 have own3:=ownsRow_kept own2 kA (by simp)
 have hbase:base≤w.heap.size:=by
  rcases hs.map with ⟨h,_⟩ | ⟨r',h,h2,h3,_⟩
  ·cases h
  ·have:=h2.lt;omega
 have hszW:w.heap.size≤W.heap.size:=kb.size
 have Hmm:=hide hmm
 have hq:=map_nil (some r) w
 have hBs:=hB.lt
 clear hmm
 go_enter Tryz.func72,Tryz.ntmps72
 go_wp2_with (at_builtin;refine wpList_append_own_at _ rfl _ _ 35 rfl base 9 i0 (.string ⟨#[]⟩) 1 16 Tryz.underlying35 hi0 hz0 hz1 hz2 rfl (by decide) _ ns.length (ns.map eS) rfl own3 ⟨W.heap.size,0,none⟩ 1 1 [.string s] rfl (by simp) str_one (by simp [Value.oneCell']) (by unfold maxLen;omega) (by omega) (by rw [sizeE_alloc];omega) ?_)
 intro v' W2 own4 grow4 nil4 at4
 have k4:=grownBy_keeps' grow4 (Value.slice ay ns.length cy).ownBlock.toList (fun r e=>.inl (by simp [e]))
 have hB4:=(hB2.keeps kA (by simp)).keeps k4 (fun hT=>hs.rowA B (by simpa using hT) hBX)
 obtain ⟨gg,cap,rfl⟩:=ownE_succ own4
 have e0:W2.cell? ⟨B,o,none⟩=some (.slice ay ns.length cy):=by rw [hB4.cell];exact h0
 have f0:=hB4.frozen o
 have ks:=Keeps.setCell W2 ⟨B,o,none⟩ (.slice (some ⟨gg,0,none⟩) (ns.length+1) cap)
 have hgg:(Value.slice ay ns.length cy).ownBlock=some gg∨gg=W.heap.size+1:=by
  rcases at4 with h | h
  ·left;rw [←h];rfl
  ·right;simpa [Value.ownBlock] using h
 have hrlt:=hm.lt
 have hggX:gg∉X:=by
  rcases hgg with h | h
  ·exact hs.rowA gg h
  ·intro hx;have:=hX gg hx;omega
 have hggr:gg≠r:=by
  rcases hgg with h | h
  ·rintro rfl;exact hr2 h
  ·omega
 have hmF:MapIs eS eI (W2.setCell ⟨B,o,none⟩ (.slice (some ⟨gg,0,none⟩) (ns.length+1) cap)) r (numb (ns++[s])):=by
  have k5:Keeps ((Value.slice ay ns.length cy).ownBlock.toList++[B]) W (W2.setCell ⟨B,o,none⟩ (.slice (some ⟨gg,0,none⟩) (ns.length+1) cap)):=((kA.mono (by simp)).trans (k4.mono (fun i hi=>List.mem_append_left _ hi))).trans (ks.mono (by simp))
  refine Hmm.out.of_heap (k5.block r Hmm.out.lt (fun hT=>?_))
  rcases List.mem_append.1 hT with hT | hT
  ·exact hr2 (by simpa using hT)
  ·exact hrB (by simpa using hT)
 have ownF:=ownsRow_kept own4 ks (fun j hj hT=>by
  have e1:j=B:=(by simpa using hT)
  have e2:gg=j:=(by simpa [Value.ownBlock] using hj)
  exact hggX (by rw [e2,e1];exact hBX))
 have hBF:=hB4.setCell o (.slice (some ⟨gg,0,none⟩) (ns.length+1) cap)
 have hsame:cs.setIfInBounds (o+1) (.map (some r))=cs:=by
  apply Array.ext_getElem?
  intro i
  rw [Array.getElem?_setIfInBounds]
  split
  ·rename_i h
   subst h
   split
   ·exact h1.symm
   ·rename_i hlt
    rw [Array.getElem?_eq_none (by omega)] at h1
    cases h1
  ·rfl
 have kF:Keeps ([B,r]++(Value.slice ay ns.length cy).ownBlock.toList) w (W2.setCell ⟨B,o,none⟩ (.slice (some ⟨gg,0,none⟩) (ns.length+1) cap)):=(((kb.mono (by simp)).trans (kA.mono (by simp))).trans (k4.mono (fun i hi=>List.mem_append_right _ hi))).trans (ks.mono (by simp))
 have Hend:Hid (Added w base X B o cs (.slice ay ns.length cy) (.map (some r)) ns s (W2.setCell ⟨B,o,none⟩ (.slice (some ⟨gg,0,none⟩) (ns.length+1) cap))):=hide ⟨⟨.slice (some ⟨gg,0,none⟩) (ns.length+1) cap,.map (some r),by rw [hsame];exact hBF,⟨by rw [List.length_append,List.length_singleton,List.map_append];exact ownF,fun j hj=>by have e:gg=j:=(by simpa [Value.ownBlock] using hj);rw [←e];exact hggX,.inr ⟨r,rfl,hmF,by
   rcases hs.map with ⟨h,_⟩ | ⟨r',h,_,h3,_⟩
   ·cases h
   ·cases h;exact h3,hr1,by simp [Value.ownBlock];exact hggr⟩⟩,fun j hj=>by
    have e:gg=j:=(by simpa [Value.ownBlock] using hj)
    rcases hgg with h | h
    ·left;rw [←e];exact h
    ·right;omega,fun r' h=>.inl h⟩,⟨_,kF,fun j hj=>by
    rcases List.mem_append.1 hj with h | h
    ·simp at h
     rcases h with h | h
     ·exact .inl h
     ·exact .inr (.inr (by rw [h]))
    ·exact .inr (.inl (by simpa using h))⟩⟩
 clear ownF hmF hBF hB4 kF ks own4 grow4 at4 k4 hB2 own2 own3 kA
 go_wp2_with fail
 go_ret
 exact ⟨rfl,Hend.out⟩
theorem add_nil {w:World} {base:Nat} {X:List Nat} {B o:Nat} {cs:Array Value} {tv:Value} {s:ByteArray} (hB:CellsAt w B cs) (h0:cs[o]?=some tv) (h1:cs[o+1]?=some (.map none)) (hBX:B∈X) (hX:∀ j∈X,j<w.heap.size) (hbase:base≤w.heap.size) (hs:SetV w base X tv (.map none) []) :
  Calls Tryz.prog 72 #[.pointer (some ⟨B,o,none⟩),.string s] w fun e w'=>e=.returned (.int .i64 0)∧Added w base X B o cs tv (.map none) [] s w':=by
 obtain ⟨i0,hi0,hz0,hz1,hz2⟩:=info_parts info9
 have hlk:=look_nil s w
 have hq:=map_nil none w
 have hmk:=make_map w
 have hBs:=hB.lt
 have c0:w.cell? ⟨B,o,none⟩=some tv:=by rw [hB.cell];exact h0
 have c1:w.cell? ⟨B,o+1,none⟩=some (.map none):=by rw [hB.cell];exact h1
 have f1:=hB.frozen (o+1)
 obtain ⟨ay,cy,hty⟩:=ownE_len hs.row
 subst hty
 have kA1:=Keeps.alloc [] w (.map #[] 0)
 have c1':(w.alloc (.map #[] 0)).cell? ⟨B,o+1,none⟩=some (.map none):=by rw [(hB.keeps kA1 (by simp)).cell];exact h1
 have f1':=(hB.keeps kA1 (by simp)).frozen (o+1)
 have ks1:=Keeps.setCell w ⟨B,o+1,none⟩ (.map (some w.heap.size))
 have hB1:=hB.setCell (o+1) (.map (some w.heap.size))
 have hm1:MapIs eS eI ((w.setCell ⟨B,o+1,none⟩ (.map (some w.heap.size))).alloc (.map #[] 0)) w.heap.size ([]:List (ByteArray×Int)):=by
  have:=MapIs.new (ek:=eS) (ev:=eI) (w.setCell ⟨B,o+1,none⟩ (.map (some w.heap.size))) 0
  rw [size_set] at this
  exact this
 have hB2:=hB1.keeps (Keeps.alloc [] _ (.map #[] 0)) (by simp)
 have row2:=ownsRow_kept (ownsRow_kept hs.row ks1 (fun j hj hT=>hs.rowA j hj (by have e:j=B:=(by simpa using hT);rw [e];exact hBX))) (Keeps.alloc [] (w.setCell ⟨B,o+1,none⟩ (.map (some w.heap.size))) (.map #[] 0)) (by simp)
 have k2:Keeps [B] w ((w.setCell ⟨B,o+1,none⟩ (.map (some w.heap.size))).alloc (.map #[] 0)):=ks1.trans (Keeps.alloc [B] _ _)
 have hsz2:((w.setCell ⟨B,o+1,none⟩ (.map (some w.heap.size))).alloc (.map #[] 0)).heap.size=w.heap.size+1:=by rw [sizeE_alloc,size_set]
 obtain ⟨ob,hrun,hmm⟩:=run_upd (P:=Tryz.prog) Tryz.underlying137 key9 hm1 s (0:Int)
 have hput:put ([]:List (ByteArray×Int)) s 0=numb ([]++[s]):=rfl
 rw [hput] at hmm
 simp only [eS,eI] at hrun
 have g0:((w.setCell ⟨B,o+1,none⟩ (.map (some w.heap.size))).alloc (.map #[] 0)).cell? ⟨B,o,none⟩=some (.slice ay 0 cy):=by
  rw [hB2.cell,Array.getElem?_setIfInBounds_ne (by omega)];exact h0
 have g1:((w.setCell ⟨B,o+1,none⟩ (.map (some w.heap.size))).alloc (.map #[] 0)).cell? ⟨B,o+1,none⟩=some (.map (some w.heap.size)):=by
  rw [hB2.cell,Array.getElem?_setIfInBounds_self,if_pos]
  rcases Nat.lt_or_ge (o+1) cs.size with h | h
  ·exact h
  ·rw [Array.getElem?_eq_none h] at h1;cases h1
 have kb:=Keeps.blk ((w.setCell ⟨B,o+1,none⟩ (.map (some w.heap.size))).alloc (.map #[] 0)) w.heap.size ob
 have hB3:=hB2.keeps kb (by simp;omega)
 have row3:=ownsRow_kept row2 kb (fun j hj hT=>by have e:j=w.heap.size:=(by simpa using hT);have:=(ownE_lt hs.row j hj).2;omega)
 have hszb:(blk ((w.setCell ⟨B,o+1,none⟩ (.map (some w.heap.size))).alloc (.map #[] 0)) w.heap.size ob).heap.size=w.heap.size+1:=by rw [←hsz2];simp [blk]
 generalize hW:blk ((w.setCell ⟨B,o+1,none⟩ (.map (some w.heap.size))).alloc (.map #[] 0)) w.heap.size ob=W at *
 have d0:W.cell? ⟨B,o,none⟩=some (.slice ay 0 cy):=by rw [hB3.cell,Array.getElem?_setIfInBounds_ne (by omega)];exact h0
 have kA:=Keeps.alloc [] W (.cells #[.string s] 9)
 have own3:=ownsRow_kept row3 kA (by simp)
 have Hmm:=hide hmm
 have Hszb:=hide hszb
 clear hszb
 have Hk2:=hide k2
 clear hmm hm1 k2
 go_enter Tryz.func72,Tryz.ntmps72
 go_wp2_with (at_builtin;refine wpList_append_own_at _ rfl _ _ 35 rfl base 9 i0 (.string ⟨#[]⟩) 1 16 Tryz.underlying35 hi0 hz0 hz1 hz2 rfl (by decide) _ 0 [] rfl own3 ⟨W.heap.size,0,none⟩ 1 1 [.string s] rfl (by simp) str_one (by simp [Value.oneCell']) (by unfold maxLen;omega) (by omega) (by rw [sizeE_alloc];have:=Hszb.out;omega) ?_)
 intro v' W2 own4 grow4 nil4 at4
 have hszb:=Hszb.out
 have k4:=grownBy_keeps' grow4 (Value.slice ay 0 cy).ownBlock.toList (fun r e=>.inl (by simp [e]))
 have hB4:=(hB3.keeps kA (by simp)).keeps k4 (fun hT=>hs.rowA B (by simpa using hT) hBX)
 obtain ⟨gg,cap,rfl⟩:=ownE_succ own4
 have e0:W2.cell? ⟨B,o,none⟩=some (.slice ay 0 cy):=by rw [hB4.cell,Array.getElem?_setIfInBounds_ne (by omega)];exact h0
 have f0:=hB4.frozen o
 have ks:=Keeps.setCell W2 ⟨B,o,none⟩ (.slice (some ⟨gg,0,none⟩) (0+1) cap)
 have hgg:(Value.slice ay 0 cy).ownBlock=some gg∨gg=W.heap.size+1:=by
  rcases at4 with h | h
  ·left;rw [←h];rfl
  ·right;simpa [Value.ownBlock] using h
 have hggX:gg∉X:=by
  rcases hgg with h | h
  ·exact hs.rowA gg h
  ·intro hx;have:=hX gg hx;omega
 have hggr:gg≠w.heap.size:=by
  rcases hgg with h | h
  ·have:=(ownE_lt hs.row gg h).2;omega
  ·omega
 have hmF:MapIs eS eI (W2.setCell ⟨B,o,none⟩ (.slice (some ⟨gg,0,none⟩) (0+1) cap)) w.heap.size (numb ([]++[s])):=by
  have k5:Keeps ((Value.slice ay 0 cy).ownBlock.toList++[B]) W (W2.setCell ⟨B,o,none⟩ (.slice (some ⟨gg,0,none⟩) (0+1) cap)):=((kA.mono (by simp)).trans (k4.mono (fun i hi=>List.mem_append_left _ hi))).trans (ks.mono (by simp))
  refine Hmm.out.of_heap (k5.block w.heap.size Hmm.out.lt (fun hT=>?_))
  rcases List.mem_append.1 hT with hT | hT
  ·have:=(ownE_lt hs.row _ (by simpa using hT)).2;omega
  ·have e:w.heap.size=B:=(by simpa using hT);omega
 have ownF:=ownsRow_kept own4 ks (fun j hj hT=>by
  have e1:j=B:=(by simpa using hT)
  have e2:gg=j:=(by simpa [Value.ownBlock] using hj)
  exact hggX (by rw [e2,e1];exact hBX))
 have hBF:=hB4.setCell o (.slice (some ⟨gg,0,none⟩) (0+1) cap)
 have kF:Keeps ([B]++(Value.slice ay 0 cy).ownBlock.toList) w (W2.setCell ⟨B,o,none⟩ (.slice (some ⟨gg,0,none⟩) (0+1) cap)):=((((Hk2.out.mono (T':=[B]++(Value.slice ay 0 cy).ownBlock.toList) (by simp)).trans_new kb (by simp)).trans (kA.mono (by simp))).trans (k4.mono (fun i hi=>List.mem_append_right _ hi))).trans (ks.mono (by simp))
 have Hend:Hid (Added w base X B o cs (.slice ay 0 cy) (.map none) [] s (W2.setCell ⟨B,o,none⟩ (.slice (some ⟨gg,0,none⟩) (0+1) cap))):=hide ⟨⟨.slice (some ⟨gg,0,none⟩) (0+1) cap,.map (some w.heap.size),hBF,⟨ownF,fun j hj=>by have e:gg=j:=(by simpa [Value.ownBlock] using hj);rw [←e];exact hggX,.inr ⟨w.heap.size,rfl,hmF,hbase,fun hx=>by have:=hX _ hx;omega,by simp [Value.ownBlock];exact hggr⟩⟩,fun j hj=>by
    have e:gg=j:=(by simpa [Value.ownBlock] using hj)
    rcases hgg with h | h
    ·left;rw [←e];exact h
    ·right;omega,fun r' h=>.inr (by cases h;omega)⟩,⟨_,kF,fun j hj=>by
    rcases List.mem_append.1 hj with h | h
    ·exact .inl (by simpa using h)
    ·exact .inr (.inl (by simpa using h))⟩⟩
 clear hszb ownF hmF hBF hB4 kF ks own4 grow4 at4 k4 hB2 own3 kA
 go_wp2_with fail
 go_ret
 exact ⟨rfl,Hend.out⟩
end
section
open Go.RowKit
theorem add_calls {w:World} {base:Nat} {X:List Nat} {B o:Nat} {cs:Array Value} {tv mv:Value} {ns:List ByteArray} {s:ByteArray} (hB:CellsAt w B cs) (h0:cs[o]?=some tv) (h1:cs[o+1]?=some mv) (hBX:B∈X) (hX:∀ j∈X,j<w.heap.size) (hbase:base≤w.heap.size) (hs:SetV w base X tv mv ns) (hl:ns.length≤1000000) (hp:placeB ns s=none) :
  Calls Tryz.prog 72 #[.pointer (some ⟨B,o,none⟩),.string s] w fun e w'=>e=.returned (.int .i64 ns.length)∧Added w base X B o cs tv mv ns s w':=by
 rcases hs.map with ⟨h,h'⟩ | ⟨r,h,hm,_⟩
 ·subst h
  subst h'
  exact add_nil hB h0 h1 hBX hX hbase hs
 ·subst h
  exact add_some hB h0 h1 hBX hX hs hm hl hp
theorem refuse_no {w:World} (t:Tn) (c:Int):Calls Tryz.prog 335 #[tokV t,.bool false,.int .i64 c] w fun e w'=>e=.returned (.tuple #[])∧w' = w.alloc (.cells #[.string (kindOf t.g),.string (txt t.g),.int .i64 t.line] 129):=by
 unfold tokV
 go_enter Tryz.func335,Tryz.ntmps335
 go_wp2_with fail
 go_end0
 exact ⟨rfl,rfl⟩
theorem refuse_yes {w:World} (t:Tn) (c:Int):Calls Tryz.prog 335 #[tokV t,.bool true,.int .i64 c] w fun e w'=>e=gaveUp c t.line∧w' = w.alloc (.cells #[.string (kindOf t.g),.string (txt t.g),.int .i64 t.line] 129):=by
 have hg:=hide (fun w=>giveUp_calls (w:=w) c t.line)
 unfold tokV
 go_enter Tryz.func335,Tryz.ntmps335
 go_wp2_with fail
 refine (hg.out _).mono ?_
 rintro e w1 ⟨rfl,rfl⟩
 exact ⟨rfl,rfl,rfl⟩
theorem value_calls {w:World} (t:Tn) (s:ByteArray) (hg:t.g=.int s) (hw:WfG t.g):Calls Tryz.prog 140 #[tokV t] w fun e w'=>e=.returned (.int .i64 (numOf t.g))∧w' = w.alloc (.cells #[.string (kindOf t.g),.string (txt t.g),.int .i64 t.line] 129):=by
 rw [hg] at hw
 obtain ⟨hd,hs1,hs2⟩:=hw
 have hn:numOf t.g=valTo s s.size:=by rw [hg];rfl
 have htx:txt t.g=s:=by rw [hg];rfl
 rw [hn]
 unfold tokV
 rw [htx]
 generalize kindOf t.g=K
 generalize t.line=ln
 have Hd:=hide hd
 clear hd hn htx hg
 go_enter Tryz.func140,Tryz.ntmps140
 go_wp2_with fail
 go_loopw [3,8] (fun x y wr=>∃ i:Nat,x=.int .i64 (valTo s i)∧y=.int .i64 i∧i≤s.size∧wr=w.alloc (.cells #[.string K,.string s,.int .i64 ln] 129)) (fun _ y _=>s.size - (intOf y).toNat)
 case atStart=>exact ⟨0,rfl,rfl,by omega,rfl⟩
 case round=>
  obtain ⟨i,rfl,rfl,hi,rfl⟩:=hrel
  by_cases hil:i<s.size
  ·have hiI:(i:Int)<s.size:=by omega
   have hl:=ltr_at hil
   have hdi:=Hd.out i hil
   have hb:48≤ltr s i∧ltr s i≤57:=by simp only [isDig,Bool.and_eq_true,decide_eq_true_eq] at hdi;exact hdi
   obtain ⟨hb1,hb2⟩:=hb
   have hr:=valTo_range Hd.out (k:=i) (by omega) hs2
   have Hstep:Hid (valTo s (i+1)=10 * valTo s i+(ltr s i - 48)):=hide (by rw [valTo,ltrG_ltr])
   generalize valTo s i=V at hr Hstep ⊢
   obtain ⟨hr1,hr2⟩:=hr
   clear hdi
   go_wp2_with fail
   go_roundw
   ·exact ⟨i+1,by rw [Hstep.out],by simp,by omega,trivial⟩
   ·simp only [intOf];omega
  ·have hiI:¬ (i:Int)<s.size:=by omega
   have e:i=s.size:=by omega
   subst e
   go_wp2_with fail
   go_ret
   exact ⟨rfl,rfl⟩
theorem taken_calls {w:World} {B:Nat} {cs:Array Value} {base:Nat} {X:List Nat} {tD mD tN mN:Value} {ds ns:List ByteArray} (hB:CellsAt w B cs) (h1:cs[1]?=some mD) (h4:cs[4]?=some mN) (hd:SetV w base X tD mD ds) (hn:SetV w base X tN mN ns) (s:ByteArray) :
  Calls Tryz.prog 336 #[.pointer (some ⟨B,0,none⟩),.string s] w fun e w'=>e=.returned (.bool ((placeB ds s).isSome || (placeB ns s).isSome))∧w' = w:=by
 have hp1:=hide (place_calls (B:=B) (o:=0) hd (by rw [hB.cell];exact h1) s)
 have hp2:=hide (place_calls (B:=B) (o:=3) hn (by rw [hB.cell];exact h4) s)
 cases e1:(placeB ds s).isSome with
 | true=>
  rw [e1] at hp1
  go_enter Tryz.func336,Tryz.ntmps336
  go_wp2_with fail
  refine hp1.out.mono ?_
  rintro e w1 ⟨rfl,rfl⟩
  go_wp2_with fail
  refine hp2.out.mono ?_
  rintro e w2 ⟨rfl,rfl⟩
  go_wp2_with fail
  go_ret
  exact ⟨rfl,rfl⟩
 | false=>
  rw [e1] at hp1
  go_enter Tryz.func336,Tryz.ntmps336
  go_wp2_with fail
  refine hp1.out.mono ?_
  rintro e w1 ⟨rfl,rfl⟩
  go_wp2_with fail
  refine hp2.out.mono ?_
  rintro e w2 ⟨rfl,rfl⟩
  go_wp2_with fail
  go_ret
  exact ⟨rfl,rfl⟩
end
section
open Go.RowKit
def ownL (v:Value):List Nat:=v.ownBlock.toList
def mapL:Value→List Nat | .map (some r)=>[r] | _=>[]
def intsV (l:List Int):List Value:=l.map fun n=>.int .i64 n
def natsV (l:List Nat):List Value:=l.map fun n:Nat=>Value.int .i64 (n:Int)
def ColsAre (w:World) (base:Nat) (X:List Nat):List (ByteArray×List Nat)→List Value→Prop
 | [],vs=>vs=[]
 | r :: rs,vs=>∃ v rest,vs=v :: rest∧w.ownsRow base 3 1 v r.2.length (natsV r.2)∧(∀ j∈ownL v,j∉X)∧ColsAre w base X rs rest
def termC (x:TermM):List Value:=[.bool x.isVar,.int .i64 x.num]
def termCs (xs:List TermM):List Value:=xs.flatMap termC
def LitMs (w:World) (base:Nat) (X:List Nat):List (AtomM×Bool)→List Value→Prop
 | [],vs=>vs=[]
 | l :: ls,vs=>∃ v rest,vs=[.int .i64 (l.1.rel:Int),v,.bool l.2]++rest∧w.ownsRow base 220 2 v l.1.terms.length (termCs l.1.terms)∧(∀ j∈ownL v,j∉X)∧LitMs w base X ls rest
def ClauseMs (w:World) (base:Nat) (X:List Nat):List ClauseM→List Value→Prop
 | [],vs=>vs=[]
 | c :: cs,vs=>∃ hv lv ls rest,vs=[.int .i64 (c.head.rel:Int),hv,lv]++rest∧w.ownsRow base 220 2 hv c.head.terms.length (termCs c.head.terms)∧(∀ j∈ownL hv,j∉X)∧w.ownsRow base 279 3 lv c.lits.length ls∧(∀ j∈ownL lv,j∉X)∧LitMs w base X c.lits ls∧ClauseMs w base X cs rest
section
variable {w w':World} {base:Nat} {X Y T:List Nat}
theorem keepRow {e:TypeId} {size n:Nat} {u:Value} {xs:List Value} (h:w.ownsRow base e size u n xs) (hx:∀ j∈ownL u,j∉X) (k:Keeps T w w') (hT:∀ j∈T,j∈X∨j<base∨w.heap.size≤j):w'.ownsRow base e size u n xs:=
 ownsRow_kept h k (fun j hj hjT=>by
  have:=ownE_lt h j hj
  rcases hT j hjT with h' | h' | h'
  ·exact hx j (by simp [ownL,hj]) h'
  ·omega
  ·omega)
theorem apartRow {e:TypeId} {size n:Nat} {u:Value} {xs:List Value} (h:w.ownsRow base e size u n xs) (hx:∀ j∈ownL u,j∉X) (hY:∀ j∈Y,j∈X∨w.heap.size≤j):∀ j∈ownL u,j∉Y:=fun j hj hjY=>by
 have:=ownE_lt h j (by simpa [ownL] using hj)
 rcases hY j hjY with h' | h'
 ·exact hx j hj h'
 ·omega
theorem ColsAre.keeps {rs:List (ByteArray×List Nat)} {vs:List Value} (h:ColsAre w base X rs vs) (k:Keeps T w w') (hT:∀ j∈T,j∈X∨j<base∨w.heap.size≤j):ColsAre w' base X rs vs:=by
 induction rs generalizing vs with
 | nil=>exact h
 | cons r rs ih=>
  obtain ⟨v,rest,h1,h2,h3,h4⟩:=h
  exact ⟨v,rest,h1,keepRow h2 h3 k hT,h3,ih h4⟩
theorem ColsAre.apart {rs:List (ByteArray×List Nat)} {vs:List Value} (h:ColsAre w base X rs vs) (hY:∀ j∈Y,j∈X∨w.heap.size≤j):ColsAre w base Y rs vs:=by
 induction rs generalizing vs with
 | nil=>exact h
 | cons r rs ih=>
  obtain ⟨v,rest,h1,h2,h3,h4⟩:=h
  exact ⟨v,rest,h1,h2,apartRow h2 h3 hY,ih h4⟩
theorem ColsAre.snoc {rs:List (ByteArray×List Nat)} {vs:List Value} (h:ColsAre w base X rs vs) {r:ByteArray×List Nat} {v:Value} (h2:w.ownsRow base 3 1 v r.2.length (natsV r.2)) (h3:∀ j∈ownL v,j∉X):ColsAre w base X (rs++[r]) (vs++[v]):=by
 induction rs generalizing vs with
 | nil=>
  have e:vs=[]:=h
  subst e
  exact ⟨v,[],rfl,h2,h3,rfl⟩
 | cons x rs ih=>
  obtain ⟨u,rest,k1,k2,k3,k4⟩:=h
  exact ⟨u,rest++[v],by rw [k1];rfl,k2,k3,ih k4⟩
theorem ColsAre.at {rs:List (ByteArray×List Nat)} {vs:List Value} (h:ColsAre w base X rs vs) {i:Nat} {r:ByteArray×List Nat} (hr:rs[i]?=some r):∃ v,vs[i]?=some v∧w.ownsRow base 3 1 v r.2.length (natsV r.2)∧∀ j∈ownL v,j∉X:=by
 induction rs generalizing vs i with
 | nil=>simp at hr
 | cons x rs ih=>
  obtain ⟨v,rest,h1,h2,h3,h4⟩:=h
  subst h1
  cases i with
  | zero=>simp at hr;subst hr;exact ⟨v,rfl,h2,h3⟩
  | succ i=>obtain ⟨u,k1,k2⟩:=ih h4 (by simpa using hr);exact ⟨u,by simpa using k1,k2⟩
theorem LitMs.keeps {ls:List (AtomM×Bool)} {vs:List Value} (h:LitMs w base X ls vs) (k:Keeps T w w') (hT:∀ j∈T,j∈X∨j<base∨w.heap.size≤j):LitMs w' base X ls vs:=by
 induction ls generalizing vs with
 | nil=>exact h
 | cons r rs ih=>
  obtain ⟨v,rest,h1,h2,h3,h4⟩:=h
  exact ⟨v,rest,h1,keepRow h2 h3 k hT,h3,ih h4⟩
theorem LitMs.apart {ls:List (AtomM×Bool)} {vs:List Value} (h:LitMs w base X ls vs) (hY:∀ j∈Y,j∈X∨w.heap.size≤j):LitMs w base Y ls vs:=by
 induction ls generalizing vs with
 | nil=>exact h
 | cons r rs ih=>
  obtain ⟨v,rest,h1,h2,h3,h4⟩:=h
  exact ⟨v,rest,h1,h2,apartRow h2 h3 hY,ih h4⟩
theorem LitMs.snoc {ls:List (AtomM×Bool)} {vs:List Value} (h:LitMs w base X ls vs) {l:AtomM×Bool} {v:Value} (h2:w.ownsRow base 220 2 v l.1.terms.length (termCs l.1.terms)) (h3:∀ j∈ownL v,j∉X):LitMs w base X (ls++[l]) (vs++[.int .i64 (l.1.rel:Int),v,.bool l.2]):=by
 induction ls generalizing vs with
 | nil=>
  have e:vs=[]:=h
  subst e
  exact ⟨v,[],rfl,h2,h3,rfl⟩
 | cons x rs ih=>
  obtain ⟨u,rest,k1,k2,k3,k4⟩:=h
  exact ⟨u,rest++[.int .i64 (l.1.rel:Int),v,.bool l.2],by rw [k1];simp,k2,k3,ih k4⟩
theorem ClauseMs.keeps {cs:List ClauseM} {vs:List Value} (h:ClauseMs w base X cs vs) (k:Keeps T w w') (hT:∀ j∈T,j∈X∨j<base∨w.heap.size≤j):ClauseMs w' base X cs vs:=by
 induction cs generalizing vs with
 | nil=>exact h
 | cons r rs ih=>
  obtain ⟨hv,lv,ls,rest,h1,h2,h3,h4,h5,h6,h7⟩:=h
  exact ⟨hv,lv,ls,rest,h1,keepRow h2 h3 k hT,h3,keepRow h4 h5 k hT,h5,h6.keeps k hT,ih h7⟩
theorem ClauseMs.apart {cs:List ClauseM} {vs:List Value} (h:ClauseMs w base X cs vs) (hY:∀ j∈Y,j∈X∨w.heap.size≤j):ClauseMs w base Y cs vs:=by
 induction cs generalizing vs with
 | nil=>exact h
 | cons r rs ih=>
  obtain ⟨hv,lv,ls,rest,h1,h2,h3,h4,h5,h6,h7⟩:=h
  exact ⟨hv,lv,ls,rest,h1,h2,apartRow h2 h3 hY,h4,apartRow h4 h5 hY,h6.apart hY,ih h7⟩
theorem ClauseMs.snoc {cs:List ClauseM} {vs:List Value} (h:ClauseMs w base X cs vs) {c:ClauseM} {hv lv:Value} {ls:List Value} (h2:w.ownsRow base 220 2 hv c.head.terms.length (termCs c.head.terms)) (h3:∀ j∈ownL hv,j∉X) (h4:w.ownsRow base 279 3 lv c.lits.length ls) (h5:∀ j∈ownL lv,j∉X) (h6:LitMs w base X c.lits ls):ClauseMs w base X (cs++[c]) (vs++[.int .i64 (c.head.rel:Int),hv,lv]):=by
 induction cs generalizing vs with
 | nil=>
  have e:vs=[]:=h
  subst e
  exact ⟨hv,lv,ls,[],rfl,h2,h3,h4,h5,h6,rfl⟩
 | cons x rs ih=>
  obtain ⟨a,b,c',rest,k1,k2,k3,k4,k5,k6,k7⟩:=h
  exact ⟨a,b,c',rest++[.int .i64 (c.head.rel:Int),hv,lv],by rw [k1];simp,k2,k3,k4,k5,k6,ih k7⟩
end
def footL (B:Nat) (tD mD sz tN mN co cl ln:Value):List Nat:=[B]++ownL tD++mapL mD++ownL sz++ownL tN++mapL mN++ownL co++ownL cl++ownL ln
structure MeanV (w:World) (base B:Nat) (m:Mean) (tD mD sz tN mN co cl ln:Value) (cvs kvs:List Value):Prop where
 cells:CellsAt w B #[tD,mD,sz,tN,mN,co,cl,ln]
 low:base≤B
 foot:(footL B tD mD sz tN mN co cl ln).Nodup
 doms:SetV w base [B] tD mD (m.doms.map Prod.fst)
 sizes:w.ownsRow base 3 1 sz m.doms.length (intsV (m.doms.map Prod.snd))
 names:SetV w base [B] tN mN (m.rels.map Prod.fst)
 cols:w.ownsRow base 40 1 co m.rels.length cvs
 colsA:ColsAre w base (footL B tD mD sz tN mN co cl ln) m.rels cvs
 cls:w.ownsRow base 154 3 cl m.clauses.length kvs
 clsA:ClauseMs w base (footL B tD mD sz tN mN co cl ln) m.clauses kvs
 lines:w.ownsRow base 3 1 ln m.clauses.length (natsV (m.clauses.map (·.line)))
def MeanAt (w:World) (base B:Nat) (m:Mean):Prop:=∃ tD mD sz tN mN co cl ln cvs kvs,MeanV w base B m tD mD sz tN mN co cl ln cvs kvs
theorem mapL_at {w:World} {base:Nat} {X:List Nat} {tv mv:Value} {ns:List ByteArray} (h:SetV w base X tv mv ns):∀ j∈mapL mv,base≤j∧j<w.heap.size:=fun j hj=>by
 rcases h.map with ⟨h1,_⟩ | ⟨r,h1,h2,h3,_⟩
 ·rw [h1] at hj;simp [mapL] at hj
 ·rw [h1] at hj;simp [mapL] at hj;subst hj;exact ⟨h3,h2.lt⟩
theorem ownL_at {w:World} {base:Nat} {e:TypeId} {size n:Nat} {v:Value} {xs:List Value} (h:w.ownsRow base e size v n xs):∀ j∈ownL v,base≤j∧j<w.heap.size:=fun j hj=>ownE_lt h j (by simpa [ownL] using hj)
theorem MeanV.foot_lt {w:World} {base B:Nat} {m:Mean} {tD mD sz tN mN co cl ln:Value} {cvs kvs:List Value} (h:MeanV w base B m tD mD sz tN mN co cl ln cvs kvs):∀ j∈footL B tD mD sz tN mN co cl ln,base≤j∧j<w.heap.size:=fun j hj=>by
 simp only [footL,List.mem_append,List.mem_singleton] at hj
 rcases hj with (((((((hj | hj) | hj) | hj) | hj) | hj) | hj) | hj) | hj
 ·subst hj;exact ⟨h.low,h.cells.lt⟩
 ·exact ownL_at h.doms.row j hj
 ·exact mapL_at h.doms j hj
 ·exact ownL_at h.sizes j hj
 ·exact ownL_at h.names.row j hj
 ·exact mapL_at h.names j hj
 ·exact ownL_at h.cols j hj
 ·exact ownL_at h.cls j hj
 ·exact ownL_at h.lines j hj
theorem SetV.kept {w w':World} {base:Nat} {X T:List Nat} {tv mv:Value} {ns:List ByteArray} (h:SetV w base X tv mv ns) (k:Keeps T w w') (h1:∀ j∈ownL tv,j∉T) (h2:∀ j∈mapL mv,j∉T):SetV w' base X tv mv ns:=by
 refine ⟨ownsRow_kept h.row k (fun j hj=>h1 j (by simp [ownL,hj])),h.rowA,?_⟩
 rcases h.map with hm | ⟨r,a1,a2,a3,a4,a5⟩
 ·exact .inl hm
 ·exact .inr ⟨r,a1,a2.of_heap (k.block r a2.lt (h2 r (by rw [a1];simp [mapL]))),a3,a4,a5⟩
theorem MeanV.keeps {w w':World} {base B:Nat} {m:Mean} {tD mD sz tN mN co cl ln:Value} {cvs kvs:List Value} {T:List Nat} (h:MeanV w base B m tD mD sz tN mN co cl ln cvs kvs) (k:Keeps T w w') (hT:∀ j∈T,j<base∨w.heap.size≤j):MeanV w' base B m tD mD sz tN mN co cl ln cvs kvs:=by
 have hT':∀ j,base≤j∧j<w.heap.size→j∉T:=fun j hj hjT=>by have:=hT j hjT;omega
 have own:∀ {e:TypeId} {size n:Nat} {u:Value} {xs:List Value},w.ownsRow base e size u n xs→w'.ownsRow base e size u n xs:=fun h=>ownsRow_kept h k (fun j hj=>hT' j (ownE_lt h j hj))
 exact ⟨h.cells.keeps k (hT' B ⟨h.low,h.cells.lt⟩),h.low,h.foot,h.doms.kept k (fun j hj=>hT' j (ownL_at h.doms.row j hj)) (fun j hj=>hT' j (mapL_at h.doms j hj)),own h.sizes,h.names.kept k (fun j hj=>hT' j (ownL_at h.names.row j hj)) (fun j hj=>hT' j (mapL_at h.names j hj)),own h.cols,h.colsA.keeps k (fun j hj=>.inr (hT j hj)),own h.cls,h.clsA.keeps k (fun j hj=>.inr (hT j hj)),own h.lines⟩
theorem MeanAt.keeps {w w':World} {base B:Nat} {m:Mean} {T:List Nat} (h:MeanAt w base B m) (k:Keeps T w w') (hT:∀ j∈T,j<base∨w.heap.size≤j):MeanAt w' base B m:=by
 obtain ⟨a,b,c,d,e,f,g,i,x,y,h⟩:=h
 exact ⟨a,b,c,d,e,f,g,i,x,y,h.keeps k hT⟩
end
end Go.Proofs.YtgjomknpjigkhaaGreatDoor
