import Derived.Test.YtjoblhlkfmeckaaGreatDoorQ28
import Derived.Test.YtjoblhlkfmeckaaGreatDoorQ17
set_option linter.unusedVariables false
set_option linter.unusedSimpArgs false
open Go.RowKit.Below renaming heap_alloc → q8
open Go.Proofs.Tryz
namespace Go.Proofs.YtjoblhlkfmeckaaGreatDoor
open Go Go.Conc Go.Pair Go.RowKit Go.Maps
section
variable {Post:Da} {valid:ByteArray->Bool} {Tabs:World->Prop} {gN:Nat} {Shun:Loc->Prop} {w:World}
theorem Aba(hS:Bf Shun w)(hn:NF w) :
  De prog Post 4 #[] Shun w fun val w' Sh=>Sh=Shun/\val=.tuple #[.pointer (some ⟨w.heap.size+1,0,none⟩),.pointer (some ⟨w.heap.size+2,0,none⟩)]/\Ar w w' (fun _=>False)/\NF w'/\Bf Shun w'/\Ko w' (w.heap.size+1) w.heap.size:=by
 refine D6 (Tk (Post:=Post) (f:=4) Ad hS hn (X:=fun _=>False) (R:=fun y v'=>y=.tuple #[.pointer (some ⟨w.heap.size+1,0,none⟩),.pointer (some ⟨w.heap.size+2,0,none⟩)]/\v'.heap[w.heap.size]? = some (.cells #[.slice none 0 0,.int .i64 (-1)] 52)/\v'.heap[w.heap.size+1]? = some (.cells #[.pointer (some ⟨w.heap.size,0,none⟩)] 54)) fun v hv=>(Zx v).mono ?_) ?_
 ·rintro e v' ⟨rfl,rfl⟩
  have hz:=hv.size
  refine⟨⟨_,rfl,by rw [hz],?_,?_⟩,?_⟩
  ·rw [←hz,q8 _ _ _ Ag,q8 _ _ _ Ae]
   exact heap_alloc_new _ _
  ·rw [←hz,q8 _ _ _ Ae]
   have:=heap_alloc_new (v.alloc (.cells #[.slice none 0 0,.int .i64 (-1)] 52)) (.cells #[.pointer (some ⟨v.heap.size,0,none⟩)] 54)
   simpa using this
  ·exact((Od v _ _).trans (Od _ _ _)).trans (Od _ _ _)
 ·rintro x w' Sh ⟨rfl,Kx,n',S',v',hs,rfl,b1,b2⟩
  have nb:∀j,w.heap.size<=j->¬F6 Sh j:=fun j hj ⟨a,ha,e⟩=>by
   obtain⟨a',e',o,h1,_⟩:=hS _ ha
   cases e'
   have:=Ax h1
   omega
  exact⟨rfl,rfl,Kx,n',S',(hs.same n' (nb _ Ab)).symm.trans b2,(hs.same n' (nb _ (aA _))).symm.trans b1⟩
set_option maxRecDepth 100000 in
set_option maxHeartbeats 8000000 in
theorem ES(U:Jk valid Tabs)(hpath:∀a b,Hq (Ce a b)=true/\Dj (Ce a b)=true/\valid (Ce a b)=true)(hev:valid ⟨#[]⟩=true)(B:Base Tabs gN Shun w){oA:Option Addr}{n cap:Nat}{pa pb so:Int}(ha:Gy pa)(hb:Gy pb)(hso:Gy so)(hn:n<=1000000000)(hA:M8 gN oA n w) :
  Jq prog Post 3 b3 (fun e a w' S=>(e=.normal∨e=.ret)/\a.defers = []/\a.tmps.getD 8 undef=.bool true/\Dh gN w w'/\Base Tabs gN S w') { tmps:=#[.slice oA n cap,.int .i64 pa,.int .i64 pb,.int .i64 so]++Array.replicate (f3.ntmps - (#[.slice oA n cap,.int .i64 pa,.int .i64 pb,.int .i64 so]:Array Value).size) undef,defers:=[] } w Shun:=by
 simp only [ntmps3,aU,aK,aI,Nat.reduceAdd,Nat.reduceSub,bT,bZ,cG,cB,aP,bK]
 have hsB:=B.sz
 have hpk:=Nr pa (n:=4) Ad
 have hb3:b3=.seq (Code.one b3) (.seq (Code.one (Code.two b3)) (.seq (Code.one (Code.two (Code.two b3))) (.seq (Code.one (Code.two (Code.two (Code.two b3)))) (.seq (Code.one (Code.two (Code.two (Code.two (Code.two b3))))) (.seq (Code.one (Code.two (Code.two (Code.two (Code.two (Code.two b3)))))) (.seq (Code.one (Code.two (Code.two (Code.two (Code.two (Code.two (Code.two b3))))))) (.seq (Code.one (Code.two (Code.two (Code.two (Code.two (Code.two (Code.two (Code.two b3)))))))) (.seq (.seq (Code.one (Code.one (Code.two (Code.two (Code.two (Code.two (Code.two (Code.two (Code.two (Code.two b3)))))))))) (.block 0 (.loop Gp))) (Code.two (Code.two (Code.two (Code.two (Code.two (Code.two (Code.two (Code.two (Code.two b3))))))))))))))))):=rfl
 rw [hb3]
 generalize hL:(Code.block 0 (.loop Gp))=LL
 simp only [b3,Code.yes,Code.core,Code.one,Code.two,f3,aN]
 refine Qvz ?_
 refine Ecj ?_
 refine Qvz ?_
 refine Cc rfl Ac rfl (by walk_nrm;exact(Aba (Post:=Post) B.S B.nf)) ?_
 rintro x w1 Sh1 ⟨rfl,rfl,K1,n1,S1,F1⟩
 have B1:=B.keep K1 n1 S1 (fun _ h=>h.elim)
 refine Hb2 ?_
 refine Dc8 ?_
 refine Qvz ?_
 refine Al ?_
 refine Cc rfl Ac rfl (by walk_nrm;exact(UN (Post:=Post) U B1 F1)) ?_
 rintro x w2 Sh2 ⟨St2,Cp,svb,tb,mb,wm,sm,s1,i2,rfl,hos,W⟩
 refine Hb2 ?_
 refine Dc8 ?_
 refine B77 ?_
 refine U2i ?_
 refine Ctl ?_
 refine Qvz ?_
 refine Al ?_
 refine Cc rfl Ac rfl (by walk_nrm;exact(UM (Post:=Post) U W (by have:=K1.size;omega) hsB)) ?_
 rintro x w3 Sh3 ⟨rfl,s2,p1,p2,W',k3,z3⟩
 walk_nrm
 refine Ecj ?_
 refine B77 ?_
 refine U2i ?_
 refine Ctl ?_
 refine Qvz ?_
 refine Al ?_
 refine Eo (x:=(.int .i64 (Io pa 4))) rfl Ac rfl Ad W'.B.S (by walk_nrm;exact(fun z hz=>Jd z pa 4 ha Ad Ad)) ?_;walk_nrm
 refine Al ?_
 refine Cc rfl Ac rfl (by walk_nrm;exact(O2 (Post:=Post) (g:=7) Ad (.string (Ce (Io pa 4) pb)) W'.B.S W'.B.nf (fun v=>Iy v (Io pa 4) pb ⟨Ab,Ab⟩ hb))) ?_
 rintro x w4 Sh4 ⟨rfl,rfl,K4,n4,S4⟩
 have W4:=W'.grow K4 n4 S4
 walk_nrm
 refine Ecj ?_
 refine Qvz ?_
 refine Ecj ?_
 refine B77 ?_
 refine Qxj ?_
 refine Dc8 ?_
 subst hL
 have k04:Dh gN w w4:=fun j ob hj hk=>K4.get (k3 j ob (St2.2 j ob (K1.get hj id) hk) hk) id
 have key:∀(a':Act) (Q:Exit->Act->World->(Loc->Prop)->Prop),a'=E3 (fun i=>a'.tmps.getD i undef)->Im (.slice oA n cap) (.int .i64 so) Cp (Ce (Io pa 4) pb) false (0:Nat) (fun i=>a'.tmps.getD i undef)->(∀f' w' Sh,Dh gN w w'->Base Tabs gN Sh w'->Q .normal (E3 f') w' Sh)->Jq prog Post 3 (.block 0 (.loop Gp)) Q a' w4 Sh4:=fun a' Q e hs hQ=>by
  rw [e]
  exact TR U hpath hev ⟨_,_,rfl⟩ hso hn hs W4 (hA.keep k04) fun f' w' Sh k B'=>hQ f' w' Sh (k04.trans k) B'
 refine key _ _ rfl ⟨rfl,rfl,rfl,rfl,rfl,rfl,rfl,rfl⟩ fun f' w' Sh k B'=>?_
 simp only [Cn]
 simp only [E3]
 refine Qvz ?_
 refine Ecj ?_
 exact I4 ⟨.inr rfl,rfl,rfl,k,B'⟩
end
end Go.Proofs.YtjoblhlkfmeckaaGreatDoor
