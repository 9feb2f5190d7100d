import Derived.Test.YtjoblhlkfmeckaaGreatDoorQ14
import Derived.Deep.RegionHeld3
set_option maxHeartbeats 4000000
set_option maxRecDepth 8000
set_option linter.unusedVariables false
set_option linter.unusedSimpArgs false
open Option renaming some → lp,none → od
open Go.RowKit renaming Below → ug
open Go.RowKit.Below renaming heap_alloc → q8
open Go renaming World → qq,Calls → xi,heap_alloc_new → tw,heap_setCell_other → cr
open Go.Instr renaming lookup → ry,mapUpdate → yr
open Go.Value renaming int → rl,string → pt,pointer → om,tuple → fh,agg → lx
open Go.Obj renaming cells → ye
open Go.IntKind renaming i64 → tz
open Go.Ending renaming returned → pd
open Go.Proofs.Tryz
theorem Uey{p q:Prop}(k:q)(h:Hd q->p:=by
 intro kz
 have HT2:Hid (W2.heap[tb]? = some (.cells #[.int .i64 (num+1),.map (some mb)] 94)):=by rw [←hW2];exact heap_setCell_same _ _ _ _ _ _ HT1.out
 have HK2:Hid (Ar w W2 (· = tb)):=by rw [←hW2];exact(Ar.of_below (Bh _ _) (aA _)).trans (Ar.of_grown ((Bn.refl HT1.out).set 0 _).grown (.inl rfl))
 revert HT2 HK2
 exact kz.1):p:=h ⟨k⟩
theorem Ad7{p:Prop}(h:p:=by
 exact⟨cellOf e1 rfl,cellOf e1 rfl,cellOf e2 rfl,cellOf e2 rfl,cellOf e2 rfl⟩):p:=h
theorem Ff7{p:Prop}(h:p:=by
 clear hblk
 go_enter Tryz.func67,Tryz.ntmps67
 go_wp2
 go_region_held3 (fun w'=>w'.cell? ⟨tb,0,none⟩=some (.int .i64 (num+1))/\w'.cell? ⟨tb,1,none⟩=some (.map (some mb))/\w'.cell? ⟨w.heap.size,1,none⟩=some (.string p)/\w'.cell? ⟨w.heap.size,2,none⟩=some (.string d)/\w'.cell? ⟨w.heap.size,3,none⟩=some (.string n)) (first|(go_keep;done)|exact KV.out) (fail)
 all_goals go_wp2
 all_goals exact⟨rfl,.tuple #[],by simp [results,Tryz.results67,go_sem],rfl,_,Q1.out,rfl⟩):p:=h
theorem Kt4{p:Prop}(h:p:=by
 rintro e w' ⟨he,W',hQ,rfl⟩
 exact⟨he,hQ⟩):p:=h
theorem Gbz{p q:Prop}(k:q)(h:Hd q->p:=by
 intro kz
 have Cs:Hid (Below w.heap.size w W1):=by rw [←hW1];exact Bh _ _
 obtain⟨a0,a1,a2,a3,a4⟩:=Ck5 (w:=W1) 0 1 2 3 4 HA.out
 revert Cs a0 a1 a2 a3 a4
 exact kz.1):p:=h ⟨k⟩
theorem Ftx{p:Prop}(h:p:=by
 rintro e w' ⟨⟨c,rfl,hc⟩,hb⟩
 exact⟨⟨c,rfl,Ab,fun h0=>Ab⟩,hb⟩):p:=h
theorem Z48{p:Prop}(h:p:=by
 rintro e w' ⟨⟨c,rfl,hc⟩,hb⟩
 exact⟨⟨c,rfl,Ab,fun _=>⟨x,hx⟩⟩,hb⟩):p:=h
theorem Vp4{p:Prop}(h:p:=by
 obtain⟨es,clock,since,seen,c0,_,_,_,hit,_⟩:=hR.ex
 exact(aF.1 hit).1):p:=h
theorem Hcs{p:Prop}(h:p:=by
 rcases HI.out.1.2 with⟨e,h0⟩|⟨g,cap,cur,e,_⟩
 ·exact⟨none,0,by rw [e,h0]⟩
 ·exact⟨_,_,e⟩):p:=h
theorem Tv8{p:Prop}(h:p:=by
 refine⟨HI.out.1.1,?_⟩
 rcases HI.out.1.2 with⟨e,h0⟩|⟨g,cap,cur,e,hbg,hg,hrest⟩
 ·exact .inl ⟨e,h0⟩
 ·have:=HNE.out g (by rw [e];simp [Value.ownBlock])
  exact .inr ⟨g,cap,cur,e,hbg,(hgr.block g (ltOf hg) (fun e1=>this.1 (by injection e1))).trans hg,hrest⟩):p:=h
theorem Vek{p:Prop}(h:p:=by
 rcases HI.out.1.2 with⟨e,h0⟩|⟨g,cap,cur,e,hbg,hg,_⟩
 ·rw [e] at hg';simp [Value.ownBlock] at hg'
 ·rw [e] at hg'
  simp [Value.ownBlock] at hg'
  subst hg'
  refine⟨fun e1=>?_,hbg⟩
  obtain⟨es,clock,since,seen,c0,_,_,_,hit,_⟩:=HI.out.2.1.ex
  rw [e1,hit] at hg
  cases hg):p:=h
theorem Wvp{p:Prop}(h:p:=by
 have hkw:k<w.heap.size:=aB hk (aE hbg (dN (ltOf hg)))
 rw [←hb.block k hk]
 show((w.heap.modify g _)++os)[k]? = _
 rw [dK (by simpa using hkw),bJ,aO Ab]):p:=h
theorem O4d{p q:Prop}(k:q)(h:Hd q->p:=by
 intro kz
 have HB4:Hid (Below W1.heap.size W1 W4):=by rw [←hW4];exact HB3.out.alloc HB3.out.size _
 obtain⟨m0,m1,m2⟩:=Ld (w:=W4) 0 1 2 HM4.out
 revert HB4 m0 m1 m2
 exact kz.1):p:=h ⟨k⟩
theorem E48{p q:Prop}(k:q)(h:Hd q->p:=by
 intro kz
 obtain⟨W4,hW4⟩:∃W4,W3.alloc (.cells #[.int .i64 s,.string q,.int .i64 of] 170)=W4:=⟨_,rfl⟩
 have HM4:Hid (W4.heap[W3.heap.size]? = some (.cells #[.int .i64 s,.string q,.int .i64 of] 170)):=by rw [←hW4];exact heap_alloc_new _ _
 revert W4 hW4 HM4
 exact kz.1):p:=h ⟨k⟩
theorem Mse{p q:Prop}(k:q)(h:Hd q->p:=by
 intro kz
 obtain⟨W3,hW3⟩:∃W3,wr.alloc (.cells #[.int .i64 of,.bool par,.int .i64 what] 276)=W3:=⟨_,rfl⟩
 have HN3:Hid (W3.heap[wr.heap.size]? = some (.cells #[.int .i64 of,.bool par,.int .i64 what] 276)):=by rw [←hW3];exact heap_alloc_new _ _
 revert W3 hW3 HN3
 exact kz.1):p:=h ⟨k⟩
theorem Nme{p q:Prop}(k:q)(h:Hd q->p:=by
 intro kz
 obtain⟨W4,hW4⟩:∃W4,W3.alloc (.cells #[.int .i64 s,.string (Ds q),.int .i64 of] 170)=W4:=⟨_,rfl⟩
 have HM4:Hid (W4.heap[W3.heap.size]? = some (.cells #[.int .i64 s,.string (Ds q),.int .i64 of] 170)):=by rw [←hW4];exact heap_alloc_new _ _
 revert W4 hW4 HM4
 exact kz.1):p:=h ⟨k⟩
theorem Lek{p q:Prop}(k:q)(h:Hd q->p:=by
 intro kz
 have HA3:Hid (W3.heap[w.heap.size]? = some (.cells #[.int .i64 kind,.string q,.string d,.string n,.int .i64 v] 130)):=by rw [←hW3];exact(Below.heap_alloc _ _ _ (ltOf HAr.out)).trans HAr.out
 revert HA3
 exact kz.1):p:=h ⟨k⟩
theorem N3o{p q:Prop}(k:q)(h:Hd q->p:=by
 intro kz
 have Ia:(kind:Int)<4:=Ab
 obtain⟨W1,hW1⟩:∃W1,w.alloc (.cells #[.int .i64 kind,.string q,.string d,.string n,.int .i64 v] 130)=W1:=⟨_,rfl⟩
 have HA:Hid (W1.heap[w.heap.size]? = some (.cells #[.int .i64 kind,.string q,.string d,.string n,.int .i64 v] 130)):=by rw [←hW1];exact heap_alloc_new _ _
 have Cs:Hid (Below w.heap.size w W1):=by rw [←hW1];exact Bh _ _
 have a0:=Kl (w:=W1) 0 HA.out
 have r1:W1.cell? ⟨4,kind,none⟩=some (.slice (some ⟨g,o,none⟩) T.length T.length):=(Cs.out.cell (p:=⟨4,kind,none⟩) h4).trans hrow
 have hs1:w.heap.size<W1.heap.size:=ltOf HA.out
 revert Ia W1 hW1 HA Cs a0 r1 hs1
 exact kz.1):p:=h ⟨k⟩
theorem S1l{p:Prop}(h:p:=by
 go_roundw
 case rel=>exact⟨rfl,j+1,Ab,by go_num,HB4.out.alloc HB4.out.size _⟩
 case measure=>first|(simp [intOf];done)|(simp [intOf];omega)):p:=h
namespace Go.Proofs.YtjoblhlkfmeckaaGreatDoor
open Go.RowKit Go.Maps
attribute [local go_sem ↓] Go.wp_at_zero Go.wp_at_succ
structure Ar(w w':qq)(X:Nat->Prop):Prop where
 os:w'.os=w.os
 tape:w'.tape=w.tape
 output:w'.output=w.output
 size:w.heap.size<=w'.heap.size
 block:∀k,k<w.heap.size->¬X k->w'.heap[k]? = w.heap[k]?
theorem Ar.refl(w:qq)(X:Nat->Prop):Ar w w X:=⟨rfl,rfl,rfl,aA _,fun _ _ _=>rfl⟩
theorem Ar.trans{w w1 w2:qq}{X:Nat->Prop}(h:Ar w w1 X)(k:Ar w1 w2 X):Ar w w2 X:=
 ⟨k.os.trans h.os,k.tape.trans h.tape,k.output.trans h.output,aE h.size k.size,fun j hj hx=>(k.block j (aB hj h.size) hx).trans (h.block j hj hx)⟩
theorem Ar.of_below{w w':qq}{X:Nat->Prop}{B:Nat}(h:ug B w w')(hB:w.heap.size<=B):Ar w w' X:=⟨h.os,h.tape,h.output,h.size,fun k hk _=>h.block k (aB hk hB)⟩
theorem Ar.of_grown{w w':qq}{X:Nat->Prop}{b:Nat}(h:w.grownBy w' (lp b))(hX:X b∨w.heap.size<=b):Ar w w' X:=
 ⟨h.os,h.tape,h.output,h.size,fun k hk hx=>h.block k hk (fun e=>by injection e with e;subst e;rcases hX with hX|hX;exact hx hX;omega)⟩
theorem Ar.drew{w w':qq}{X:Nat->Prop}(h:Ar w w' X):Ar w w'.drew X:=⟨h.os,h.tape,h.output,h.size,h.block⟩
theorem Ar.mono{w w':qq}{X Y:Nat->Prop}(h:Ar w w' X)(hXY:∀k,X k->Y k):Ar w w' Y:=⟨h.os,h.tape,h.output,h.size,fun k hk hn=>h.block k hk (fun hx=>hn (hXY k hx))⟩
theorem HY(w:qq)(tb:Nat)(p d n:ByteArray)(v:Int)(num:Int)(h0:0<=num)(h1:num+1<=9223372036854775807)(mb:Nat)(hblk:w.heap[tb]? = lp (ye #[rl tz num,.map (lp mb)] 94))(Q:qq->Prop)(HU:Hid (∀W,Ar w W (· = tb)->W.heap[tb]? = lp (ye #[rl tz (num+1),.map (lp mb)] 94)->∃W',(yr 92 (.map (lp mb)) (pt p) (lx #[pt p,pt d,pt n,rl tz (num+1),rl tz (num+1),rl tz 0])).run prog W=.ok () W'/\Hid (Ar W W' (· = mb))/\Hid (Q W')))(hmt:mb≠tb)(hmb:mb<w.heap.size) :
  xi prog 67 #[om (lp ⟨tb,0,od⟩),J4 1 p d n v] w fun e w'=>e=pd (fh #[])/\(∃W',Q W'/\w'=W'):=by
 have htb:=ltOf hblk
 obtain⟨W2,hW2⟩:∃W2,(w.alloc (ye #[rl tz 1,pt p,pt d,pt n,rl tz v] 130)).setCell ⟨tb,0,od⟩ (rl tz (num+1))=W2:=⟨_,rfl⟩
 have HT1:Hid ((w.alloc (ye #[rl tz 1,pt p,pt d,pt n,rl tz v] 130)).heap[tb]? = lp (ye #[rl tz num,.map (lp mb)] 94)):=(q8 _ _ _ htb).trans hblk
 refine Uey ?_;intro HT2 HK2
 have Hl:Hid (W2.heap[w.heap.size]? = lp (ye #[rl tz 1,pt p,pt d,pt n,rl tz v] 130)):=by rw [←hW2];exact(cr _ _ _ _ (by show w.heap.size≠tb;omega)).trans (tw _ _)
 obtain⟨t0,t1⟩:=BH (w:=W2) 0 1 HT2.out
 obtain⟨a0,a1,a2,a3⟩:=Ck4 (w:=W2) 0 1 2 3 Hl.out
 have s0:=Kl (w:=(w.alloc (ye #[rl tz 1,pt p,pt d,pt n,rl tz v] 130))) 0 HT1.out
 have s1:=EX (w:=(w.alloc (ye #[rl tz 1,pt p,pt d,pt n,rl tz v] 130))) 0 HT1.out
 have r0:=Kl (w:=w) 0 hblk
 have r1:=EX (w:=w) 0 hblk
 have Cu:tb≠w.heap.size:=Ab
 obtain⟨V1,u1,K1,Q1⟩:=HU.out W2.drew HK2.out.drew HT2.out
 have KV:Hid ((fun w'=>w'.cell? ⟨tb,0,od⟩=lp (rl tz (num+1))/\w'.cell? ⟨tb,1,od⟩=lp (.map (lp mb))/\w'.cell? ⟨w.heap.size,1,od⟩=lp (pt p)/\w'.cell? ⟨w.heap.size,2,od⟩=lp (pt d)/\w'.cell? ⟨w.heap.size,3,od⟩=lp (pt n)) V1):=by
  have e1:V1.heap[tb]? = lp (ye #[rl tz (num+1),.map (lp mb)] 94):=(K1.out.block tb (ltOf HT2.out) (fun e=>hmt e.symm)).trans HT2.out
  have e2:V1.heap[w.heap.size]? = lp (ye #[rl tz 1,pt p,pt d,pt n,rl tz v] 130):=(K1.out.block w.heap.size (ltOf Hl.out) (fun e=>Ab)).trans Hl.out
  exact Ad7
 exact Ff7
end Go.Proofs.YtjoblhlkfmeckaaGreatDoor
namespace Go.Proofs.YtjoblhlkfmeckaaGreatDoor
open Go.RowKit Go.Maps
attribute [local go_sem ↓] Go.wp_at_zero Go.wp_at_succ
theorem IA(w:qq)(tb:Nat)(p d n:ByteArray)(v:Int)(num:Int)(h0:0<=num)(h1:num+1<=9223372036854775807)(mb:Nat)(hblk:w.heap[tb]? = lp (ye #[rl tz num,.map (lp mb)] 94))(Q:qq->Prop)(HU:Hid (∀W,Ar w W (· = tb)->W.heap[tb]? = lp (ye #[rl tz (num+1),.map (lp mb)] 94)->∃W',(Builtin.delete_ #[92,9] 0 #[.map (lp mb),pt p]).run prog W=.ok (fh #[]) W'/\Hid (Ar W W' (· = mb))/\Hid (Q W')))(hmt:mb≠tb)(hmb:mb<w.heap.size) :
  xi prog 67 #[om (lp ⟨tb,0,od⟩),J4 2 p d n v] w fun e w'=>e=pd (fh #[])/\(∃W',Q W'/\w'=W'):=by
 have htb:=ltOf hblk
 obtain⟨W2,hW2⟩:∃W2,(w.alloc (ye #[rl tz 2,pt p,pt d,pt n,rl tz v] 130)).setCell ⟨tb,0,od⟩ (rl tz (num+1))=W2:=⟨_,rfl⟩
 have HT1:Hid ((w.alloc (ye #[rl tz 2,pt p,pt d,pt n,rl tz v] 130)).heap[tb]? = lp (ye #[rl tz num,.map (lp mb)] 94)):=(q8 _ _ _ htb).trans hblk
 refine Uey ?_;intro HT2 HK2
 have Hl:Hid (W2.heap[w.heap.size]? = lp (ye #[rl tz 2,pt p,pt d,pt n,rl tz v] 130)):=by rw [←hW2];exact(cr _ _ _ _ (by show w.heap.size≠tb;omega)).trans (tw _ _)
 obtain⟨t0,t1⟩:=BH (w:=W2) 0 1 HT2.out
 obtain⟨a0,a1,a2,a3⟩:=Ck4 (w:=W2) 0 1 2 3 Hl.out
 have s0:=Kl (w:=(w.alloc (ye #[rl tz 2,pt p,pt d,pt n,rl tz v] 130))) 0 HT1.out
 have s1:=EX (w:=(w.alloc (ye #[rl tz 2,pt p,pt d,pt n,rl tz v] 130))) 0 HT1.out
 have r0:=Kl (w:=w) 0 hblk
 have r1:=EX (w:=w) 0 hblk
 have Cu:tb≠w.heap.size:=Ab
 obtain⟨V1,u1,K1,Q1⟩:=HU.out W2.drew HK2.out.drew HT2.out
 have KV:Hid ((fun w'=>w'.cell? ⟨tb,0,od⟩=lp (rl tz (num+1))/\w'.cell? ⟨tb,1,od⟩=lp (.map (lp mb))/\w'.cell? ⟨w.heap.size,1,od⟩=lp (pt p)/\w'.cell? ⟨w.heap.size,2,od⟩=lp (pt d)/\w'.cell? ⟨w.heap.size,3,od⟩=lp (pt n)) V1):=by
  have e1:V1.heap[tb]? = lp (ye #[rl tz (num+1),.map (lp mb)] 94):=(K1.out.block tb (ltOf HT2.out) (fun e=>hmt e.symm)).trans HT2.out
  have e2:V1.heap[w.heap.size]? = lp (ye #[rl tz 2,pt p,pt d,pt n,rl tz v] 130):=(K1.out.block w.heap.size (ltOf Hl.out) (fun e=>Ab)).trans Hl.out
  exact Ad7
 exact Ff7
end Go.Proofs.YtjoblhlkfmeckaaGreatDoor
namespace Go.Proofs.YtjoblhlkfmeckaaGreatDoor
open Go.RowKit Go.Maps
attribute [local go_sem ↓] Go.wp_at_zero Go.wp_at_succ
theorem Ar.step{w w1 w2:qq}{X:Nat->Prop}{b:Nat}(h:Ar w w1 X)(g:w1.grownBy w2 (lp b))(hb:w.heap.size<=b):Ar w w2 X:=
 ⟨g.os.trans h.os,g.tape.trans h.tape,g.output.trans h.output,aE h.size g.size,fun k hk hx=>(g.block k (aB hk h.size) (fun e=>by injection e with e;omega)).trans (h.block k hk hx)⟩
theorem XL(w:qq)(tb:Nat)(p d n:ByteArray)(v:Int)(num:Int)(h0:0<=num)(h1:num+1<=9223372036854775807)(mb:Nat)(hblk:w.heap[tb]? = lp (ye #[rl tz num,.map (lp mb)] 94))(xp xd xn:ByteArray)(xm xc xv:Int)(hv1:0<=xv)(hv2:xv<=2147483647)(Q:qq->Prop)(HL:Hid (∀W,Ar w W (· = tb)->(ry 92 (.map (lp mb)) (pt p) false).run prog W=.ok (lx #[pt xp,pt xd,pt xn,rl tz xm,rl tz xc,rl tz xv]) W))(HU:Hid (∀W,Ar w W (· = tb)->W.heap[tb]? = lp (ye #[rl tz (num+1),.map (lp mb)] 94)->∃W',(yr 92 (.map (lp mb)) (pt p) (lx #[pt xp,pt d,pt xn,rl tz xm,rl tz (num+1),rl tz (N3 xv)])).run prog W=.ok () W'/\Hid (Ar W W' (· = mb))/\Hid (Q W')))(hmt:mb≠tb)(hmb:mb<w.heap.size) :
  xi prog 67 #[om (lp ⟨tb,0,od⟩),J4 3 p d n v] w fun e w'=>e=pd (fh #[])/\(∃W',Q W'/\w'=W'):=by
 have htb:=ltOf hblk
 have HVB:Hid (∀W,xi prog 126 #[rl tz xv] W fun e w'=>e=pd (rl tz (N3 xv))/\w'=W):=fun W=>Qm W xv hv1 hv2
 obtain⟨W2,hW2⟩:∃W2,(w.alloc (ye #[rl tz 3,pt p,pt d,pt n,rl tz v] 130)).setCell ⟨tb,0,od⟩ (rl tz (num+1))=W2:=⟨_,rfl⟩
 have HT1:Hid ((w.alloc (ye #[rl tz 3,pt p,pt d,pt n,rl tz v] 130)).heap[tb]? = lp (ye #[rl tz num,.map (lp mb)] 94)):=(q8 _ _ _ htb).trans hblk
 refine Uey ?_;intro HT2 HK2
 have Hl:Hid (W2.heap[w.heap.size]? = lp (ye #[rl tz 3,pt p,pt d,pt n,rl tz v] 130)):=by rw [←hW2];exact(cr _ _ _ _ (by show w.heap.size≠tb;omega)).trans (tw _ _)
 have hs2:w.heap.size<W2.heap.size:=ltOf Hl.out
 obtain⟨W3,hW3⟩:∃W3,W2.alloc (ye #[pt ⟨#[]⟩,pt ⟨#[]⟩,pt ⟨#[]⟩,rl tz 0,rl tz 0,rl tz 0] 96)=W3:=⟨_,rfl⟩
 have HZ3:Hid (W3.heap[W2.heap.size]? = lp (ye #[pt ⟨#[]⟩,pt ⟨#[]⟩,pt ⟨#[]⟩,rl tz 0,rl tz 0,rl tz 0] 96)):=by rw [←hW3];exact tw _ _
 have HK3:Hid (Ar w W3 (· = tb)):=by rw [←hW3];exact HK2.out.trans (Ar.of_below (Bh _ _) (aA _))
 have HT3:Hid (W3.heap[tb]? = lp (ye #[rl tz (num+1),.map (lp mb)] 94)):=by rw [←hW3];exact(q8 _ _ _ (ltOf HT2.out)).trans HT2.out
 have HA3:Hid (W3.heap[w.heap.size]? = lp (ye #[rl tz 3,pt p,pt d,pt n,rl tz v] 130)):=by rw [←hW3];exact(q8 _ _ _ (ltOf Hl.out)).trans Hl.out
 obtain⟨W4,hW4⟩:∃W4,((((((W3.setCell ⟨W2.heap.size,0,od⟩ (pt xp)).setCell ⟨W2.heap.size,1,od⟩ (pt xd)).setCell ⟨W2.heap.size,2,od⟩ (pt xn)).setCell ⟨W2.heap.size,3,od⟩ (rl tz xm)).setCell ⟨W2.heap.size,4,od⟩ (rl tz xc)).setCell ⟨W2.heap.size,5,od⟩ (rl tz xv))=W4:=⟨_,rfl⟩
 have HX4:Hid (W4.heap[W2.heap.size]? = lp (ye #[pt xp,pt xd,pt xn,rl tz xm,rl tz xc,rl tz xv] 96)):=by rw [←hW4];exact((((((((Bn.refl HZ3.out).set 0 (pt xp)).set 1 (pt xd)).set 2 (pt xn)).set 3 (rl tz xm)).set 4 (rl tz xc)).set 5 (rl tz xv))).blk
 have HG4:Hid (W3.grownBy W4 (lp W2.heap.size)):=by rw [←hW4];exact((((((((Bn.refl HZ3.out).set 0 (pt xp)).set 1 (pt xd)).set 2 (pt xn)).set 3 (rl tz xm)).set 4 (rl tz xc)).set 5 (rl tz xv))).grown
 have HK4:Hid (Ar w W4 (· = tb)):=HK3.out.step HG4.out (dN hs2)
 have HT4:Hid (W4.heap[tb]? = lp (ye #[rl tz (num+1),.map (lp mb)] 94)):=(HG4.out.block tb (ltOf HT3.out) (fun e=>by injection e;omega)).trans HT3.out
 have HA4:Hid (W4.heap[w.heap.size]? = lp (ye #[rl tz 3,pt p,pt d,pt n,rl tz v] 130)):=(HG4.out.block _ (ltOf HA3.out) (fun e=>by injection e;omega)).trans HA3.out
 obtain⟨W5,hW5⟩:∃W5,(((W4.setCell ⟨W2.heap.size,1,od⟩ (pt d)).setCell ⟨W2.heap.size,4,od⟩ (rl tz (num+1))).setCell ⟨W2.heap.size,5,od⟩ (rl tz (N3 xv)))=W5:=⟨_,rfl⟩
 have HX5:Hid (W5.heap[W2.heap.size]? = lp (ye #[pt xp,pt d,pt xn,rl tz xm,rl tz (num+1),rl tz (N3 xv)] 96)):=by rw [←hW5];exact(((((Bn.refl HX4.out).set 1 (pt d)).set 4 (rl tz (num+1))).set 5 (rl tz (N3 xv)))).blk
 have HG5:Hid (W4.grownBy W5 (lp W2.heap.size)):=by rw [←hW5];exact(((((Bn.refl HX4.out).set 1 (pt d)).set 4 (rl tz (num+1))).set 5 (rl tz (N3 xv)))).grown
 have HK5:Hid (Ar w W5 (· = tb)):=HK4.out.step HG5.out (dN hs2)
 have HT5:Hid (W5.heap[tb]? = lp (ye #[rl tz (num+1),.map (lp mb)] 94)):=(HG5.out.block tb (ltOf HT4.out) (fun e=>by injection e;omega)).trans HT4.out
 have HA5:Hid (W5.heap[w.heap.size]? = lp (ye #[rl tz 3,pt p,pt d,pt n,rl tz v] 130)):=(HG5.out.block _ (ltOf HA4.out) (fun e=>by injection e;omega)).trans HA4.out
 obtain⟨t20,t21⟩:=BH (w:=W2) 0 1 HT2.out
 obtain⟨a20,a21,a22⟩:=Ld (w:=W2) 0 1 2 Hl.out
 obtain⟨t30,t31⟩:=BH (w:=W3) 0 1 HT3.out
 obtain⟨a30,a31,a32⟩:=Ld (w:=W3) 0 1 2 HA3.out
 obtain⟨t40,t41⟩:=BH (w:=W4) 0 1 HT4.out
 obtain⟨a40,a41,a42⟩:=Ld (w:=W4) 0 1 2 HA4.out
 obtain⟨t50,t51⟩:=BH (w:=W5) 0 1 HT5.out
 obtain⟨a50,a51,a52⟩:=Ld (w:=W5) 0 1 2 HA5.out
 have n30:=Kl (w:=W3) 0 HZ3.out
 have f30:=Ay (j:=0) HZ3.out
 have n31:=Kl (w:=W3) 1 HZ3.out
 have f31:=Ay (j:=1) HZ3.out
 have n32:=Kl (w:=W3) 2 HZ3.out
 have f32:=Ay (j:=2) HZ3.out
 have n33:=Kl (w:=W3) 3 HZ3.out
 have f33:=Ay (j:=3) HZ3.out
 have n34:=Kl (w:=W3) 4 HZ3.out
 have f34:=Ay (j:=4) HZ3.out
 have n35:=Kl (w:=W3) 5 HZ3.out
 have f35:=Ay (j:=5) HZ3.out
 have n40:=Kl (w:=W4) 0 HX4.out
 have f40:=Ay (j:=0) HX4.out
 have n41:=Kl (w:=W4) 1 HX4.out
 have f41:=Ay (j:=1) HX4.out
 have n42:=Kl (w:=W4) 2 HX4.out
 have f42:=Ay (j:=2) HX4.out
 have n43:=Kl (w:=W4) 3 HX4.out
 have f43:=Ay (j:=3) HX4.out
 have n44:=Kl (w:=W4) 4 HX4.out
 have f44:=Ay (j:=4) HX4.out
 have n45:=Kl (w:=W4) 5 HX4.out
 have f45:=Ay (j:=5) HX4.out
 obtain⟨n50,n51,n52,n53,n54,n55⟩:=WO (w:=W5) 0 1 2 3 4 5 HX5.out
 have l20:=HL.out W2 HK2.out
 have l30:=HL.out W3 HK3.out
 have l21:=HL.out W2.drew HK2.out.drew
 have l31:=HL.out W3.drew HK3.out.drew
 have l22:=HL.out W2.drew.drew HK2.out.drew.drew
 have l32:=HL.out W3.drew.drew HK3.out.drew.drew
 have l23:=HL.out W2.drew.drew.drew HK2.out.drew.drew.drew
 have l33:=HL.out W3.drew.drew.drew HK3.out.drew.drew.drew
 have s0:=Kl (w:=(w.alloc (ye #[rl tz 3,pt p,pt d,pt n,rl tz v] 130))) 0 HT1.out
 have s1:=EX (w:=(w.alloc (ye #[rl tz 3,pt p,pt d,pt n,rl tz v] 130))) 0 HT1.out
 have r0:=Kl (w:=w) 0 hblk
 have r1:=EX (w:=w) 0 hblk
 have Cu:tb≠w.heap.size:=Ab
 have hn2:tb≠W2.heap.size:=Ab
 have hn3:w.heap.size≠W2.heap.size:=Ab
 obtain⟨V,uV,KX,QV⟩:=HU.out W5.drew.drew.drew HK5.out.drew.drew.drew HT5.out
 have KV:Hid ((fun w'=>w'.cell? ⟨tb,1,od⟩=lp (.map (lp mb))/\w'.cell? ⟨w.heap.size,1,od⟩=lp (pt p)/\w'.cell? ⟨W2.heap.size,0,od⟩=lp (pt xp)/\w'.cell? ⟨W2.heap.size,1,od⟩=lp (pt d)/\w'.cell? ⟨W2.heap.size,2,od⟩=lp (pt xn)/\w'.cell? ⟨W2.heap.size,3,od⟩=lp (rl tz xm)/\w'.cell? ⟨W2.heap.size,4,od⟩=lp (rl tz (num+1))/\w'.cell? ⟨W2.heap.size,5,od⟩=lp (rl tz (N3 xv))) V):=by
  have hs5:W2.heap.size<W5.heap.size:=ltOf HX5.out
  have e1:V.heap[tb]? = _:=(KX.out.block tb (ltOf HT5.out) (fun e=>hmt e.symm)).trans HT5.out
  have e2:V.heap[w.heap.size]? = _:=(KX.out.block w.heap.size (ltOf HA5.out) (fun e=>Ab)).trans HA5.out
  have e3:V.heap[W2.heap.size]? = _:=(KX.out.block W2.heap.size hs5 (fun e=>Ab)).trans HX5.out
  exact⟨cellOf e1 rfl,cellOf e2 rfl,cellOf e3 rfl,cellOf e3 rfl,cellOf e3 rfl,cellOf e3 rfl,cellOf e3 rfl,cellOf e3 rfl⟩
 have PP1:Hid ((W4.setCell ⟨W2.heap.size,1,od⟩ (pt d)).cell? ⟨tb,0,od⟩=lp (rl tz (num+1))/\(W4.setCell ⟨W2.heap.size,1,od⟩ (pt d)).cell? ⟨w.heap.size,2,od⟩=lp (pt d)):=
  ⟨cellOf ((cr _ _ _ _ (by show tb≠W2.heap.size;omega)).trans HT4.out) rfl,cellOf ((cr _ _ _ _ (by show w.heap.size≠W2.heap.size;omega)).trans HA4.out) rfl⟩
 have PP2:Hid (((W4.setCell ⟨W2.heap.size,1,od⟩ (pt d)).setCell ⟨W2.heap.size,4,od⟩ (rl tz (num+1))).cell? ⟨tb,0,od⟩=lp (rl tz (num+1))/\((W4.setCell ⟨W2.heap.size,1,od⟩ (pt d)).setCell ⟨W2.heap.size,4,od⟩ (rl tz (num+1))).cell? ⟨w.heap.size,2,od⟩=lp (pt d)):=
  ⟨cellOf ((cr _ _ _ _ (by show tb≠W2.heap.size;omega)).trans ((cr _ _ _ _ (by show tb≠W2.heap.size;omega)).trans HT4.out)) rfl,cellOf ((cr _ _ _ _ (by show w.heap.size≠W2.heap.size;omega)).trans ((cr _ _ _ _ (by show w.heap.size≠W2.heap.size;omega)).trans HA4.out)) rfl⟩
 clear hblk
 go_enter func67,ntmps67
 go_wp2
 go_region_held3 (fun w'=>w'.cell? ⟨tb,1,od⟩=lp (.map (lp mb))/\w'.cell? ⟨w.heap.size,1,od⟩=lp (pt p)) (first|(go_keep;done)|exact⟨t31,a31⟩|exact⟨t41,a41⟩) (fail)
 all_goals go_wp2
 all_goals (go_region_law (go_simp;go_at_call 126;refine(HVB.out _).mono ?_;rintro e w6 ⟨rfl,rfl⟩))
 all_goals go_wp2
 all_goals (go_region_held3 (fun w'=>w'.cell? ⟨tb,1,od⟩=lp (.map (lp mb))/\w'.cell? ⟨w.heap.size,1,od⟩=lp (pt p)/\w'.cell? ⟨W2.heap.size,0,od⟩=lp (pt xp)/\w'.cell? ⟨W2.heap.size,1,od⟩=lp (pt d)/\w'.cell? ⟨W2.heap.size,2,od⟩=lp (pt xn)/\w'.cell? ⟨W2.heap.size,3,od⟩=lp (rl tz xm)/\w'.cell? ⟨W2.heap.size,4,od⟩=lp (rl tz (num+1))/\w'.cell? ⟨W2.heap.size,5,od⟩=lp (rl tz (N3 xv))) (first|(go_keep;done)|exact KV.out) (fail))
 all_goals go_wp2
 all_goals exact⟨rfl,fh #[],by simp [results,results67,go_sem],rfl,_,QV.out,rfl⟩
end Go.Proofs.YtjoblhlkfmeckaaGreatDoor
